/-
  The laws of one rune, of decoding, of parts and of names.
-/
import Derived.Test.YtjkiollopajmoabDoorRKnown
namespace Go.Proofs.YtjkiollopajmoabDoor.R
set_option linter.unusedVariables false
open Go.RowKit V

theorem encR_two (r : Int) (h : vld r = false) : encR [97, r] = ([], 13) := by
  unfold encR
  rw [if_neg]
  intro hall
  have := hall r (by simp)
  rw [h] at this; cases this
theorem encR_one (n : Nat) (h : vld (n : Int) = true) : encR [(n : Int)] = (enc n, 0) := by
  unfold encR
  rw [if_pos (by intro z hz; simp at hz; rw [hz]; exact h)]
  simp [nats, encs]
theorem decR_one (n : Nat) (h : vld (n : Int) = true) : decR (enc n) = ([n], 0) := by
  have h2 := vld_scal (n := n)
  rw [h] at h2
  have h3 := (Bool.and_eq_true _ _).mp h2.symm
  have := decR_encs (rs := [n]) (by intro x hx; simp at hx; rw [hx]; exact h3.1) (by simp; intro e; rw [← e] at h3; simp at h3)
  simpa [encs] using this

set_option maxRecDepth 100000 in
set_option maxHeartbeats 2000000 in
theorem one_any (r : Int) (w : World) (hL : Ld w) (hr : -2147483648 ≤ r ∧ r ≤ 2147483647) :
    Calls Tryd.prog 3 #[.int .i32 r] w fun e w' => e = .returned (.bool true) ∧ Below w.heap.size w w' := by
  have HL := Lib.hid hL
  have HS := Lib.hid (fun wx => size_any r wx)
  have HT := Lib.hid (fun wx => rsize_any r wx hr)
  have hq : ((szr r : Int) != (szr r : Int)) = false := by rw [bne_eq_false_iff_eq]
  generalize szr r = sz at *
  have HB : Hid (Below w.heap.size w w) := Below.refl _ _
  have HK := Lib.hid known_any
  clear hL
  by_cases hv : vld r = true
  · obtain ⟨n, rfl⟩ := Int.eq_ofNat_of_zero_le (show 0 ≤ r by rw [vld_iff] at hv; omega)
    have HV := Lib.hid (fun wx => valid_yes n wx hv)
    have HW := Lib.hid (fun wx => rvalid_yes n wx hv)
    have HBy := Lib.hid (fun wx => rbytes_any n (vld_le hv) wx)
    have HNa := Lib.hid (fun wx => rname_any n (vld_le hv) wx)
    have hel := enc_len n
    have HN := Lib.hid (fun wx h => named_yes n hv ⟨(nm n).toArray⟩ rfl wx h)
    have HF := Lib.hid (fun wx h => found_yes n hv ⟨(nm n).toArray⟩ rfl wx h)
    have HE := Lib.hid (fun a c wx h => (encodes_any [(n : Int)] a 1 c ⟨(enc n).toArray⟩ 0 wx (by simp) rfl (by rw [encR_one n hv]) (by rw [encR_one n hv]; rfl) h).mono fun e w' h => And.intro h.1 (bel_eq h.2))
    have HD := Lib.hid (fun a c wx h => decodes_any (enc n) a 1 c 0 [(n : Int)] wx (by omega) rfl (by rw [decR_one n hv]; rfl) (by rw [decR_one n hv]; rfl) h)
    have hn31 := vld_le hv
    generalize (⟨(nm n).toArray⟩ : ByteArray) = M at *
    clear hv
    obtain ⟨hr1, hr2⟩ := hr
    go_enter Tryd.func3, Tryd.ntmps3
    go_wp2_with (first | (go_at_call 9; refine (HV.out _).mono ?_; rintro e w' ⟨rfl, rfl⟩) | (go_at_call 10; refine (HW.out _).mono ?_; rintro e w' ⟨rfl, rfl⟩) | (go_at_call 11; refine (HS.out _).mono ?_; rintro e w' ⟨rfl, rfl⟩) | (go_at_call 12; refine (HT.out _).mono ?_; rintro e w1 ⟨rfl, hb⟩; replace HB := bel_tr HB hb; clear hb))
    refine (HBy.out _).mono ?_
    rintro e w2 ⟨g, c2, rfl, hrow, hb, -⟩
    have hcv := G.conv_row (P := Tryd.prog) hrow _ rfl c2 29 9 5 Tryd.underlying29 Tryd.underlying5 Tryd.underlying9
    replace HB := bel_tr HB hb
    clear hb hrow HBy HV HW HS HT
    generalize (⟨(enc n).toArray⟩ : ByteArray) = E at *
    go_wp2_with (go_at_call 17; refine (HNa.out _).mono ?_; rintro e w' ⟨rfl, rfl⟩)
    refine (HN.out _ (HL.out.below HB.out)).mono ?_
    rintro e w3 ⟨rfl, hb⟩
    replace HB := bel_tr HB hb
    clear hb hcv
    go_wp2_with (go_at_call 17; refine (HNa.out _).mono ?_; rintro e w' ⟨rfl, rfl⟩)
    refine (HF.out _ (HL.out.below HB.out)).mono ?_
    rintro e w4 ⟨rfl, hb⟩
    replace HB := bel_tr HB hb
    clear hb
    go_wp2_with fail
    refine (HE.out _ _ _ (row_lit _ _ _ _ rfl)).mono ?_
    rintro e w5 ⟨rfl, hb⟩
    replace HB := bel_al HB hb
    clear hb
    go_wp2_with fail
    refine (HD.out _ _ _ (row_lit _ _ _ _ rfl)).mono ?_
    rintro e w6 ⟨rfl, hb⟩
    replace HB := bel_al HB hb
    clear hb
    go_wp2_with fail
    refine (HK.out _ (HL.out.below HB.out)).mono ?_
    rintro e w7 ⟨rfl, hb⟩
    replace HB := bel_tr HB hb
    clear hb
    go_wp2_with fail
    go_ret
    exact ⟨rfl, HB.out⟩
  · have hv' : vld r = false := by simpa using hv
    have HV := Lib.hid (fun wx => valid_not r wx hv')
    have HW := Lib.hid (fun wx => rvalid_not r wx hr hv')
    have HN := Lib.hid (fun wx => named_not r hv' wx)
    have HE := Lib.hid (fun a c wx h => (encodes_any [97, r] a 2 c ⟨#[]⟩ 13 wx (by simp) rfl (by rw [encR_two r hv']) (by rw [encR_two r hv']; rfl) h).mono fun e w' h => And.intro h.1 (bel_eq h.2))
    clear hv hv'
    go_enter Tryd.func3, Tryd.ntmps3
    go_wp2_with (first | (go_at_call 9; refine (HV.out _).mono ?_; rintro e w' ⟨rfl, rfl⟩) | (go_at_call 10; refine (HW.out _).mono ?_; rintro e w' ⟨rfl, rfl⟩) | (go_at_call 11; refine (HS.out _).mono ?_; rintro e w' ⟨rfl, rfl⟩) | (go_at_call 12; refine (HT.out _).mono ?_; rintro e w1 ⟨rfl, hb⟩; replace HB := bel_tr HB hb; clear hb) | (go_at_call 13; refine (HN.out _).mono ?_; rintro e w' ⟨rfl, rfl⟩))
    refine (HE.out _ _ _ (row_lit _ _ _ _ rfl)).mono ?_
    rintro e w5 ⟨rfl, hb⟩
    replace HB := bel_al HB hb
    clear hb
    go_wp2_with fail
    refine (HK.out _ (HL.out.below HB.out)).mono ?_
    rintro e w7 ⟨rfl, hb⟩
    replace HB := bel_tr HB hb
    clear hb
    go_wp2_with fail
    go_ret
    exact ⟨rfl, HB.out⟩

set_option maxRecDepth 100000 in
set_option maxHeartbeats 2000000 in
theorem decs_any (l : List UInt8) (w : World) (hL : Ld w) (hl : l.length ≤ 9223372036854775807) :
    Calls Tryd.prog 4 #[.string ⟨l.toArray⟩] w fun e w' => e = .returned (.bool true) ∧ Below w.heap.size w w' := by
  have HL := Lib.hid hL
  have HK := Lib.hid known_any
  have hsz : (⟨l.toArray⟩ : ByteArray).size = l.length := by simp [ByteArray.size]
  have HB : Hid (Below w.heap.size w w) := Below.refl _ _
  clear hL
  by_cases h3 : 300 < l.length
  · have q0 : decide ((300 : Int) < ((⟨l.toArray⟩ : ByteArray).size : Int)) = true := by rw [hsz]; simp; omega
    generalize (⟨l.toArray⟩ : ByteArray) = S at *
    clear h3 hsz hl
    go_enter Tryd.func4, Tryd.ntmps4
    go_wp2_with fail
    refine (HK.out _ HL.out).mono ?_
    rintro e w7 ⟨rfl, hb⟩
    replace HB := bel_tr HB hb
    clear hb
    go_wp2_with fail
    go_ret
    exact ⟨rfl, HB.out⟩
  · have q0 : decide ((300 : Int) < ((⟨l.toArray⟩ : ByteArray).size : Int)) = false := by rw [hsz]; simp; omega
    have HR := Lib.hid (rdecode_any l w (by omega))
    have HD := Lib.hid (fun a n c wx hn h => decodes_any l a n c ((decR l).2 : Int) (ints (decR l).1) wx (by omega) hn rfl rfl h)
    have HH := Lib.hid (fun wx => has_any l ((decR l).1.length : Int) ((decR l).2 : Int) wx (by omega) rfl rfl)
    have hil := ints_length (decR l).1
    generalize (decR l).2 = E at *
    generalize (decR l).1 = R at *
    generalize (⟨l.toArray⟩ : ByteArray) = S at *
    clear h3 hsz hl
    go_enter Tryd.func4, Tryd.ntmps4
    go_wp2_with fail
    refine HR.out.mono ?_
    rintro e w1 ⟨v, rfl, ho, hb⟩
    replace HB := bel_tr HB hb
    obtain ⟨a, c, rfl, hrow, -⟩ := ho.row2
    have HDw := Lib.hid (HD.out a (ints R).length c w1 rfl hrow)
    rw [hil] at HDw ⊢
    clear hb ho hrow HD HR hil
    go_wp2_with fail
    refine HDw.out.mono ?_
    rintro e w2 ⟨rfl, hb⟩
    replace HB := bel_tr HB hb
    clear hb
    go_wp2_with fail
    refine (HH.out _).mono ?_
    rintro e w3 ⟨rfl, hb⟩
    replace HB := bel_tr HB hb
    clear hb
    go_wp2_with fail
    refine (HK.out _ (HL.out.below HB.out)).mono ?_
    rintro e w7 ⟨rfl, hb⟩
    replace HB := bel_tr HB hb
    clear hb
    go_wp2_with fail
    go_ret
    exact ⟨rfl, HB.out⟩

set_option maxRecDepth 100000 in
set_option maxHeartbeats 2000000 in
theorem cuts_law (l : List UInt8) (x y : Int) (w : World) (hL : Ld w) (hl : l.length ≤ 9223372036854775807) (hx : -9223372036854775808 ≤ x ∧ x ≤ 9223372036854775807) (hy : -9223372036854775808 ≤ y ∧ y ≤ 9223372036854775807) :
    Calls Tryd.prog 6 #[.string ⟨l.toArray⟩, .int .i64 x, .int .i64 y] w fun e w' => e = .returned (.bool true) ∧ Below w.heap.size w w' := by
  have HL := Lib.hid hL
  have HK := Lib.hid known_any
  have hsz : (⟨l.toArray⟩ : ByteArray).size = l.length := by simp [ByteArray.size]
  have HB : Hid (Below w.heap.size w w) := Below.refl _ _
  clear hL
  by_cases h3 : 300 < l.length
  · have q0 : decide ((300 : Int) < ((⟨l.toArray⟩ : ByteArray).size : Int)) = true := by rw [hsz]; simp; omega
    generalize (⟨l.toArray⟩ : ByteArray) = S at *
    clear h3 hsz hl hx hy
    go_enter Tryd.func6, Tryd.ntmps6
    go_wp2_with fail
    refine (HK.out _ HL.out).mono ?_
    rintro e w7 ⟨rfl, hb⟩
    replace HB := bel_tr HB hb
    clear hb
    go_wp2_with fail
    go_ret
    exact ⟨rfl, HB.out⟩
  · have q0 : decide ((300 : Int) < ((⟨l.toArray⟩ : ByteArray).size : Int)) = false := by rw [hsz]; simp; omega
    have HR := Lib.hid (rcut_any l x y w (by omega) hx hy)
    have HC := Lib.hid (fun wx => cuts_any l x y ⟨(cutR l x y).1.toArray⟩ ((cutR l x y).2 : Int) wx (by omega) hx hy rfl rfl)
    generalize (cutR l x y).2 = E at *
    generalize (⟨(cutR l x y).1.toArray⟩ : ByteArray) = X at *
    generalize (⟨l.toArray⟩ : ByteArray) = S at *
    clear h3 hsz hl hx hy
    go_enter Tryd.func6, Tryd.ntmps6
    go_wp2_with fail
    refine HR.out.mono ?_
    rintro e w1 ⟨rfl, hb⟩
    replace HB := bel_tr HB hb
    clear hb
    go_wp2_with fail
    refine (HC.out _).mono ?_
    rintro e w2 ⟨rfl, hb⟩
    replace HB := bel_tr HB hb
    clear hb
    go_wp2_with fail
    refine (HK.out _ (HL.out.below HB.out)).mono ?_
    rintro e w7 ⟨rfl, hb⟩
    replace HB := bel_tr HB hb
    clear hb
    go_wp2_with fail
    go_ret
    exact ⟨rfl, HB.out⟩

set_option maxRecDepth 100000 in
set_option maxHeartbeats 2000000 in
theorem names_any (l : List UInt8) (w : World) (hL : Ld w) (hl : l.length ≤ 9223372036854775807) :
    Calls Tryd.prog 7 #[.string ⟨l.toArray⟩] w fun e w' => e = .returned (.bool true) ∧ Below w.heap.size w w' := by
  have HL := Lib.hid hL
  have HK := Lib.hid known_any
  have hsz : (⟨l.toArray⟩ : ByteArray).size = l.length := by simp [ByteArray.size]
  have HB : Hid (Below w.heap.size w w) := Below.refl _ _
  clear hL
  by_cases h3 : 60 < l.length
  · have q0 : decide ((60 : Int) < ((⟨l.toArray⟩ : ByteArray).size : Int)) = true := by rw [hsz]; simp; omega
    generalize (⟨l.toArray⟩ : ByteArray) = S at *
    clear h3 hsz hl
    go_enter Tryd.func7, Tryd.ntmps7
    go_wp2_with fail
    refine (HK.out _ HL.out).mono ?_
    rintro e w7 ⟨rfl, hb⟩
    replace HB := bel_tr HB hb
    clear hb
    go_wp2_with fail
    go_ret
    exact ⟨rfl, HB.out⟩
  · have q0 : decide ((60 : Int) < ((⟨l.toArray⟩ : ByteArray).size : Int)) = false := by rw [hsz]; simp; omega
    have HR := Lib.hid (rbyname_any l w (by omega))
    have HY := Lib.hid (fun (n : Nat) hv (hn : l = nm n) wx h => found_yes n hv ⟨l.toArray⟩ (by rw [hn]) wx h)
    have HN := Lib.hid (fun hn wx h => found_not l hn (by omega) wx h)
    generalize (⟨l.toArray⟩ : ByteArray) = S at *
    clear h3 hsz hl
    go_enter Tryd.func7, Tryd.ntmps7
    go_wp2_with fail
    refine HR.out.mono ?_
    rintro e w' ⟨⟨n, hv, hn, rfl⟩ | ⟨hn, rfl⟩, rfl⟩
    · have HF := Lib.hid (fun wx h => HY.out n hv hn wx h)
      clear hv hn HY HN HR
      go_wp2_with fail
      refine (HF.out _ HL.out).mono ?_
      rintro e w2 ⟨rfl, hb⟩
      replace HB := bel_tr HB hb
      clear hb
      go_wp2_with fail
      refine (HK.out _ (HL.out.below HB.out)).mono ?_
      rintro e w7 ⟨rfl, hb⟩
      replace HB := bel_tr HB hb
      clear hb
      go_wp2_with fail
      go_ret
      exact ⟨rfl, HB.out⟩
    · have HF := Lib.hid (fun wx h => HN.out hn wx h)
      clear hn HY HN HR
      go_wp2_with fail
      refine (HF.out _ HL.out).mono ?_
      rintro e w2 ⟨rfl, hb⟩
      replace HB := bel_tr HB hb
      clear hb
      go_wp2_with fail
      refine (HK.out _ (HL.out.below HB.out)).mono ?_
      rintro e w7 ⟨rfl, hb⟩
      replace HB := bel_tr HB hb
      clear hb
      go_wp2_with fail
      go_ret
      exact ⟨rfl, HB.out⟩
end Go.Proofs.YtjkiollopajmoabDoor.R
