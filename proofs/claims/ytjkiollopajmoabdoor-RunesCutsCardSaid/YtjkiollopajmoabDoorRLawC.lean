/-
  The theorem of the stage.
-/
import Derived.Test.YtjkiollopajmoabDoorRLawB
namespace Go.Proofs.YtjkiollopajmoabDoor.R
set_option linter.unusedVariables false
open Go.RowKit V

theorem ints_nats {zs : List Int} (h : ∀ z ∈ zs, vld z = true) : ints (nats zs) = zs := by
  induction zs with
  | nil => rfl
  | cons z zs ih =>
    have hz := h z (by simp)
    have := ih (fun x hx => h x (by simp [hx]))
    simp only [ints, nats, List.map_cons] at this ⊢
    rw [this]
    congr 1
    rw [vld_iff] at hz
    show ((z.toNat : Nat) : Int) = z
    omega
/-- What Encode gives, Decode gives back. -/
theorem encR_back {zs : List Int} (h : (encR zs).2 = 0) : decR (encR zs).1 = (nats zs, 0) ∧ ints (nats zs) = zs := by
  unfold encR at h ⊢
  split at h
  · rename_i hall
    rw [if_pos hall]
    refine ⟨decR_encs ?_ ?_, ints_nats hall⟩
    · intro r hr
      simp only [nats, List.mem_map] at hr
      obtain ⟨z, hz, rfl⟩ := hr
      have h1 := hall z hz
      have h2 := vld_iff.1 h1
      rw [show z = ((z.toNat : Nat) : Int) by omega, vld_scal, Bool.and_eq_true] at h1
      exact h1.1
    · intro hr
      simp only [nats, List.mem_map] at hr
      obtain ⟨z, hz, e⟩ := hr
      have h2 := vld_iff.1 (hall z hz)
      omega
  · cases h
theorem encR_len (zs : List Int) : (encR zs).1.length ≤ 4 * zs.length := by
  unfold encR
  split
  · have := (encs_len (nats zs)).2
    simpa [nats] using this
  · simp

/-- Two neighbouring parts. -/
theorem cut_two {l : List UInt8} {x y z : Int} (h1 : (cutR l x y).2 = 0) (h2 : (cutR l y z).2 = 0) : cutR l x z = ((cutR l x y).1 ++ (cutR l y z).1, 0) := by
  unfold cutR at h1 h2 ⊢
  split at h1
  · rename_i h0; exact absurd h1 h0
  · rename_i h0
    rw [if_neg h0] at h2
    rw [if_neg h0, if_neg h0, if_neg h0]
    split at h1
    · cases h1
    · rename_i c1
      split at h2
      · cases h2
      · rename_i c2
        rw [if_neg c1, if_neg c2, if_neg (by omega)]
        simp only [Prod.mk.injEq, and_true]
        rw [← encs_append]
        congr 1
        have e1 : z.toNat - x.toNat = (y.toNat - x.toNat) + (z.toNat - y.toNat) := by omega
        rw [e1, List.take_add, List.drop_drop]
        congr 3
        omega
theorem cut_all {l : List UInt8} (h : (decR l).2 = 0) : cutR l 0 ((decR l).1.length : Int) = (l, 0) := by
  unfold cutR
  rw [if_neg (by omega), if_neg (by omega)]
  simp
  exact (decR_ok h).1

theorem cutR_len (l : List UInt8) (x y : Int) : (cutR l x y).1.length ≤ 4 * l.length := by
  unfold cutR
  split
  · simp
  · rename_i h0
    split
    · simp
    · have h1 := (encs_len (decR l).1).1
      rw [(decR_ok (by omega : (decR l).2 = 0)).1] at h1
      have h2 := (encs_len (((decR l).1.drop x.toNat).take (y.toNat - x.toNat))).2
      have h3 : (((decR l).1.drop x.toNat).take (y.toNat - x.toNat)).length ≤ (decR l).1.length := by simp; omega
      simp only
      omega

theorem szr_scal {n : Nat} (h : scal n = true) (h0 : n ≠ 0) : szr (n : Int) = (enc n).length := by
  unfold szr
  rw [if_pos (by rw [vld_scal, h, Bool.true_and, bne_iff_ne]; exact h0)]
  rfl

set_option maxRecDepth 100000 in
set_option maxHeartbeats 4000000 in
theorem holds_any (l : List UInt8) (zs : List Int) (a : Option Addr) (c : Nat) (x y z : Int) (w : World) (hL : Ld w) (hl : l.length ≤ 9223372036854775807) (hlen : zs.length ≤ 9223372036854775807) (hrow : G.RowI .i32 w a zs)
    (hx : -9223372036854775808 ≤ x ∧ x ≤ 9223372036854775807) (hy : -9223372036854775808 ≤ y ∧ y ≤ 9223372036854775807) (hz : -9223372036854775808 ≤ z ∧ z ≤ 9223372036854775807) :
    Calls Tryd.prog 8 #[.string ⟨l.toArray⟩, .slice a zs.length c, .int .i64 x, .int .i64 y, .int .i64 z] w fun e w' => e = .returned (.bool true) ∧ Below w.heap.size w w' := by
  have HL := Lib.hid hL
  have HK := Lib.hid known_any
  have HB : Hid (Below w.heap.size w w) := Below.refl _ _
  obtain ⟨S, hS⟩ : ∃ S : ByteArray, S = ⟨l.toArray⟩ := ⟨_, rfl⟩
  have hsz : S.size = l.length := by rw [hS]; simp [ByteArray.size]
  clear hL
  by_cases h3 : 300 < l.length
  · have q0 : decide ((300 : Int) < (S.size : Int)) = true := by rw [hsz]; simp; omega
    rw [← hS]
    clear h3 hlen hl hrow hx hy hz hS hsz
    go_enter Tryd.func8, Tryd.ntmps8
    go_wp2_with fail
    refine (HK.out _ HL.out).mono ?_
    rintro e w7 ⟨rfl, hb⟩
    replace HB := bel_tr HB hb
    clear hb
    go_wp2_with fail
    go_ret
    exact ⟨rfl, HB.out⟩
  have q0 : decide ((300 : Int) < (S.size : Int)) = false := by rw [hsz]; simp; omega
  by_cases h4 : 100 < zs.length
  · have q1 : decide ((100 : Int) < (zs.length : Int)) = true := by simp; omega
    rw [← hS]
    clear h3 h4 hlen hl hrow hx hy hz hS hsz
    go_enter Tryd.func8, Tryd.ntmps8
    go_wp2_with fail
    refine (HK.out _ HL.out).mono ?_
    rintro e w7 ⟨rfl, hb⟩
    replace HB := bel_tr HB hb
    clear hb
    go_wp2_with fail
    go_ret
    exact ⟨rfl, HB.out⟩
  have q1 : decide ((100 : Int) < (zs.length : Int)) = false := by simp; omega
  have HR := Lib.hid hrow
  have HEn := Lib.hid (encode_any zs a c w (by omega) hrow)
  have HD1 := Lib.hid (fun wx h (e0 : (encR zs).2 = 0) => decodes_any (encR zs).1 a zs.length c 0 zs wx (by have := encR_len zs; omega) rfl (by rw [(encR_back e0).1]; exact (encR_back e0).2.symm) (by rw [(encR_back e0).1]; rfl) h)
  have HDe := Lib.hid (fun wx => decode_any l wx (by omega))
  have HCu := Lib.hid (fun u v wx hu hv => cut_any l u v wx (by omega) hu hv)
  have HCs := Lib.hid (fun u v s no wx hu hv hs hno => cuts_any l u v s no wx (by omega) hu hv hs hno)
  have HX := Lib.hid hx
  have HY := Lib.hid hy
  have HZ := Lib.hid hz
  have HSz := Lib.hid hsz
  have HSl : Hid (S = ⟨l.toArray⟩) := hS
  have HLl : Hid (l.length ≤ 300) := by show _ ≤ _; omega
  rw [← hS] at HDe HCu HCs ⊢
  have hil := ints_length (decR l).1
  clear h3 h4 hlen hl hrow hx hy hz hS hsz
  have hz0 : (encR zs).2 = 0 ∨ ¬ (encR zs).2 = 0 := by omega
  rcases hz0 with he0 | he0
  · have q2 : (((encR zs).2 : Int) == 0) = true := by rw [beq_iff_eq]; omega
    have HD := Lib.hid (HD1.out w HR.out he0)
    generalize (⟨(encR zs).1.toArray⟩ : ByteArray) = X at *
    clear HD1 he0
    generalize (encR zs).2 = E at *
    go_enter Tryd.func8, Tryd.ntmps8
    go_wp2_with (go_at_call 27; refine HEn.out.mono ?_; rintro e w' ⟨rfl, rfl⟩)
    refine HD.out.mono ?_
    rintro e w1 ⟨rfl, hb⟩
    replace HB := bel_tr HB hb
    clear hb HD HEn
    go_wp2_with fail
    refine (HDe.out _).mono ?_
    rintro e w2 ⟨v, rfl, ho, hb⟩
    replace HB := bel_tr HB hb
    obtain ⟨b, d, rfl, hrow2, -⟩ := ho.row2
    rw [hil]
    have HRow := Lib.hid hrow2
    clear hb ho hrow2 HDe
    by_cases hd : (decR l).2 = 0
    · have q3 : (((decR l).2 : Int) != 0) = false := by rw [bne_eq_false_iff_eq]; omega
      have HOk := Lib.hid (decR_ok hd)
      have HAll := Lib.hid (cut_all hd)
      generalize (decR l).2 = F at *
      generalize (decR l).1 = R at *
      have HRl : Hid (R.length ≤ 300) := by
        show _ ≤ _
        have h1 := (encs_len R).1
        rw [HOk.out.1] at h1
        have := HLl.out
        omega
      clear hd
      go_wp2_with fail
      go_loop [15, 17, 53] (fun n u i => ∃ k : Nat, k ≤ R.length ∧ i = .int .i64 k ∧ n = .int .i64 ((encs (R.take k)).length : Nat)) (fun _ _ i => R.length - (intOf i).toNat)
      case atStart => exact ⟨0, Nat.zero_le _, rfl, rfl⟩
      case round =>
        obtain ⟨k, hk, rfl, rfl⟩ := hrel
        by_cases hlt : k < R.length
        · rcases HRow.out with he | ⟨g, o, rfl, hc⟩
          · have := ints_length R; rw [he] at this; simp at this; omega
          obtain ⟨p, hp⟩ : ∃ p, p = R[k] := ⟨_, rfl⟩
          have hcell0 := hc k (by rw [ints_length]; exact hlt)
          have hcell : w2.cell? ⟨g, o + k, none⟩ = some (.int .i32 (p : Int)) := by rw [hcell0, hp]; simp [ints]
          have hm : R[k] ∈ R := List.getElem_mem hlt
          rw [← hp] at hm
          have hs := szr_scal (HOk.out.2.1 p hm) (fun e => HOk.out.2.2 (by rw [← e]; exact hm))
          have HSi := Lib.hid (fun wx => size_any (p : Int) wx)
          rw [hs] at HSi
          have hlen2 := encs_take_len R k hlt
          rw [← hp] at hlen2
          have hle : (encs (R.take k)).length ≤ 1200 := by
            have h1 := (encs_len (R.take k)).2
            have h2 : (R.take k).length ≤ k := by simp; omega
            have := HRl.out
            omega
          have hel := enc_len p
          have hRl := HRl.out
          have HL2 := Lib.hid hlen2
          generalize (encs (R.take k)).length = m at *
          generalize (enc p).length = q at *
          clear hc hcell0 hp hm hs hlen2
          go_wp2_with (go_at_call 11; refine (HSi.out _).mono ?_; rintro e w' ⟨rfl, rfl⟩)
          go_round
          case rel => exact ⟨k + 1, by omega, by go_num, by rw [HL2.out]; go_num⟩
          case measure => simp [intOf]; omega
        · obtain rfl : k = R.length := by omega
          rw [List.take_length]
          have hRl := HRl.out
          have henc := HOk.out.1
          have q4 : (((encs R).length : Int) != (S.size : Int)) = false := by rw [bne_eq_false_iff_eq, HSz.out, henc]
          have HEs := Lib.hid (encodes_any (ints R) b R.length d S 0 w2 (by rw [ints_length]; omega) (ints_length R).symm (by rw [encR_ints R HOk.out.2.1 HOk.out.2.2, henc]; exact HSl.out) (by rw [encR_ints R HOk.out.2.1 HOk.out.2.2]; rfl) HRow.out)
          have HCl := Lib.hid (fun wx => HCs.out 0 (R.length : Int) S 0 wx (by omega) (by omega) (by rw [HAll.out]; exact HSl.out) (by rw [HAll.out]; rfl))
          have HC1 := Lib.hid (fun wx => HCu.out x y wx HX.out HY.out)
          have HC2 := Lib.hid (fun wx => HCu.out y z wx HY.out HZ.out)
          have HTwo := Lib.hid (fun (e1 : (cutR l x y).2 = 0) (e2 : (cutR l y z).2 = 0) wx => HCs.out x z (⟨(cutR l x y).1.toArray⟩ ++ ⟨(cutR l y z).1.toArray⟩) 0 wx HX.out HZ.out (by rw [cut_two e1 e2, G.str_app]) (by rw [cut_two e1 e2]; rfl))
          have hP1 : (⟨(cutR l x y).1.toArray⟩ : ByteArray).size ≤ 1200 := by
            have h1 := cutR_len l x y
            have h2 := HLl.out
            simp [ByteArray.size]; omega
          have hP2 : (⟨(cutR l y z).1.toArray⟩ : ByteArray).size ≤ 1200 := by
            have h1 := cutR_len l y z
            have h2 := HLl.out
            simp [ByteArray.size]; omega
          generalize (⟨(cutR l x y).1.toArray⟩ : ByteArray) = P1 at *
          generalize (⟨(cutR l y z).1.toArray⟩ : ByteArray) = P2 at *
          generalize (cutR l x y).2 = E1 at *
          generalize (cutR l y z).2 = E2 at *
          generalize (encs R).length = en at *
          clear hRl henc hlt hk HCu HCs HX HY HZ HSz HSl HAll HOk
          go_wp2_with (go_at_call 14; refine HEs.out.mono ?_; rintro e w' ⟨rfl, rfl⟩)
          refine (HC1.out _).mono ?_
          rintro e w3 ⟨rfl, hb⟩
          replace HB := bel_tr HB hb
          clear hb HC1 HEs
          go_wp2_with fail
          refine (HC2.out _).mono ?_
          rintro e w4 ⟨rfl, hb⟩
          replace HB := bel_tr HB hb
          clear hb HC2
          by_cases e1 : E1 = 0
          · by_cases e2 : E2 = 0
            · have HT := Lib.hid (fun wx => HTwo.out e1 e2 wx)
              subst e1 e2
              clear HTwo
              go_wp2_with fail
              refine (HT.out _).mono ?_
              rintro e w5 ⟨rfl, hb⟩
              replace HB := bel_tr HB hb
              clear hb HT
              go_wp2_with fail
              refine (HCl.out _).mono ?_
              rintro e w6 ⟨rfl, hb⟩
              replace HB := bel_tr HB hb
              clear hb HCl
              go_wp2_with fail
              refine (HK.out _ (HL.out.below HB.out)).mono ?_
              rintro e w7 ⟨rfl, hb⟩
              replace HB := bel_tr HB hb
              clear hb
              go_wp2_with fail
              go_ret
              exact ⟨rfl, HB.out⟩
            · have q5 : ((E2 : Int) == 0) = false := by rw [beq_eq_false_iff_ne]; omega
              subst e1
              clear HTwo e2
              go_wp2_with fail
              refine (HCl.out _).mono ?_
              rintro e w6 ⟨rfl, hb⟩
              replace HB := bel_tr HB hb
              clear hb HCl
              go_wp2_with fail
              refine (HK.out _ (HL.out.below HB.out)).mono ?_
              rintro e w7 ⟨rfl, hb⟩
              replace HB := bel_tr HB hb
              clear hb
              go_wp2_with fail
              go_ret
              exact ⟨rfl, HB.out⟩
          · have q5 : ((E1 : Int) == 0) = false := by rw [beq_eq_false_iff_ne]; omega
            clear HTwo e1
            go_wp2_with fail
            refine (HCl.out _).mono ?_
            rintro e w6 ⟨rfl, hb⟩
            replace HB := bel_tr HB hb
            clear hb HCl
            go_wp2_with fail
            refine (HK.out _ (HL.out.below HB.out)).mono ?_
            rintro e w7 ⟨rfl, hb⟩
            replace HB := bel_tr HB hb
            clear hb
            go_wp2_with fail
            go_ret
            exact ⟨rfl, HB.out⟩
    · have q3 : (((decR l).2 : Int) != 0) = true := by rw [bne_iff_ne]; omega
      generalize (decR l).2 = F at *
      generalize (decR l).1 = R at *
      clear hd
      go_wp2_with fail
      refine (HK.out _ (HL.out.below HB.out)).mono ?_
      rintro e w7 ⟨rfl, hb⟩
      replace HB := bel_tr HB hb
      clear hb
      go_wp2_with fail
      go_ret
      exact ⟨rfl, HB.out⟩
  · have q2 : (((encR zs).2 : Int) == 0) = false := by rw [beq_eq_false_iff_ne]; omega
    generalize (⟨(encR zs).1.toArray⟩ : ByteArray) = X at *
    clear HD1 he0
    generalize (encR zs).2 = E at *
    go_enter Tryd.func8, Tryd.ntmps8
    go_wp2_with (go_at_call 27; refine HEn.out.mono ?_; rintro e w' ⟨rfl, rfl⟩)
    clear HEn
    refine (HDe.out _).mono ?_
    rintro e w2 ⟨v, rfl, ho, hb⟩
    replace HB := bel_tr HB hb
    obtain ⟨b, d, rfl, hrow2, -⟩ := ho.row2
    rw [hil]
    have HRow := Lib.hid hrow2
    clear hb ho hrow2 HDe
    by_cases hd : (decR l).2 = 0
    · have q3 : (((decR l).2 : Int) != 0) = false := by rw [bne_eq_false_iff_eq]; omega
      have HOk := Lib.hid (decR_ok hd)
      have HAll := Lib.hid (cut_all hd)
      generalize (decR l).2 = F at *
      generalize (decR l).1 = R at *
      have HRl : Hid (R.length ≤ 300) := by
        show _ ≤ _
        have h1 := (encs_len R).1
        rw [HOk.out.1] at h1
        have := HLl.out
        omega
      clear hd
      go_wp2_with fail
      go_loop [15, 17, 53] (fun n u i => ∃ k : Nat, k ≤ R.length ∧ i = .int .i64 k ∧ n = .int .i64 ((encs (R.take k)).length : Nat)) (fun _ _ i => R.length - (intOf i).toNat)
      case atStart => exact ⟨0, Nat.zero_le _, rfl, rfl⟩
      case round =>
        obtain ⟨k, hk, rfl, rfl⟩ := hrel
        by_cases hlt : k < R.length
        · rcases HRow.out with he | ⟨g, o, rfl, hc⟩
          · have := ints_length R; rw [he] at this; simp at this; omega
          obtain ⟨p, hp⟩ : ∃ p, p = R[k] := ⟨_, rfl⟩
          have hcell0 := hc k (by rw [ints_length]; exact hlt)
          have hcell : w2.cell? ⟨g, o + k, none⟩ = some (.int .i32 (p : Int)) := by rw [hcell0, hp]; simp [ints]
          have hm : R[k] ∈ R := List.getElem_mem hlt
          rw [← hp] at hm
          have hs := szr_scal (HOk.out.2.1 p hm) (fun e => HOk.out.2.2 (by rw [← e]; exact hm))
          have HSi := Lib.hid (fun wx => size_any (p : Int) wx)
          rw [hs] at HSi
          have hlen2 := encs_take_len R k hlt
          rw [← hp] at hlen2
          have hle : (encs (R.take k)).length ≤ 1200 := by
            have h1 := (encs_len (R.take k)).2
            have h2 : (R.take k).length ≤ k := by simp; omega
            have := HRl.out
            omega
          have hel := enc_len p
          have hRl := HRl.out
          have HL2 := Lib.hid hlen2
          generalize (encs (R.take k)).length = m at *
          generalize (enc p).length = q at *
          clear hc hcell0 hp hm hs hlen2
          go_wp2_with (go_at_call 11; refine (HSi.out _).mono ?_; rintro e w' ⟨rfl, rfl⟩)
          go_round
          case rel => exact ⟨k + 1, by omega, by go_num, by rw [HL2.out]; go_num⟩
          case measure => simp [intOf]; omega
        · obtain rfl : k = R.length := by omega
          rw [List.take_length]
          have hRl := HRl.out
          have henc := HOk.out.1
          have q4 : (((encs R).length : Int) != (S.size : Int)) = false := by rw [bne_eq_false_iff_eq, HSz.out, henc]
          have HEs := Lib.hid (encodes_any (ints R) b R.length d S 0 w2 (by rw [ints_length]; omega) (ints_length R).symm (by rw [encR_ints R HOk.out.2.1 HOk.out.2.2, henc]; exact HSl.out) (by rw [encR_ints R HOk.out.2.1 HOk.out.2.2]; rfl) HRow.out)
          have HCl := Lib.hid (fun wx => HCs.out 0 (R.length : Int) S 0 wx (by omega) (by omega) (by rw [HAll.out]; exact HSl.out) (by rw [HAll.out]; rfl))
          have HC1 := Lib.hid (fun wx => HCu.out x y wx HX.out HY.out)
          have HC2 := Lib.hid (fun wx => HCu.out y z wx HY.out HZ.out)
          have HTwo := Lib.hid (fun (e1 : (cutR l x y).2 = 0) (e2 : (cutR l y z).2 = 0) wx => HCs.out x z (⟨(cutR l x y).1.toArray⟩ ++ ⟨(cutR l y z).1.toArray⟩) 0 wx HX.out HZ.out (by rw [cut_two e1 e2, G.str_app]) (by rw [cut_two e1 e2]; rfl))
          have hP1 : (⟨(cutR l x y).1.toArray⟩ : ByteArray).size ≤ 1200 := by
            have h1 := cutR_len l x y
            have h2 := HLl.out
            simp [ByteArray.size]; omega
          have hP2 : (⟨(cutR l y z).1.toArray⟩ : ByteArray).size ≤ 1200 := by
            have h1 := cutR_len l y z
            have h2 := HLl.out
            simp [ByteArray.size]; omega
          generalize (⟨(cutR l x y).1.toArray⟩ : ByteArray) = P1 at *
          generalize (⟨(cutR l y z).1.toArray⟩ : ByteArray) = P2 at *
          generalize (cutR l x y).2 = E1 at *
          generalize (cutR l y z).2 = E2 at *
          generalize (encs R).length = en at *
          clear hRl henc hlt hk HCu HCs HX HY HZ HSz HSl HAll HOk
          go_wp2_with (go_at_call 14; refine HEs.out.mono ?_; rintro e w' ⟨rfl, rfl⟩)
          refine (HC1.out _).mono ?_
          rintro e w3 ⟨rfl, hb⟩
          replace HB := bel_tr HB hb
          clear hb HC1 HEs
          go_wp2_with fail
          refine (HC2.out _).mono ?_
          rintro e w4 ⟨rfl, hb⟩
          replace HB := bel_tr HB hb
          clear hb HC2
          by_cases e1 : E1 = 0
          · by_cases e2 : E2 = 0
            · have HT := Lib.hid (fun wx => HTwo.out e1 e2 wx)
              subst e1 e2
              clear HTwo
              go_wp2_with fail
              refine (HT.out _).mono ?_
              rintro e w5 ⟨rfl, hb⟩
              replace HB := bel_tr HB hb
              clear hb HT
              go_wp2_with fail
              refine (HCl.out _).mono ?_
              rintro e w6 ⟨rfl, hb⟩
              replace HB := bel_tr HB hb
              clear hb HCl
              go_wp2_with fail
              refine (HK.out _ (HL.out.below HB.out)).mono ?_
              rintro e w7 ⟨rfl, hb⟩
              replace HB := bel_tr HB hb
              clear hb
              go_wp2_with fail
              go_ret
              exact ⟨rfl, HB.out⟩
            · have q5 : ((E2 : Int) == 0) = false := by rw [beq_eq_false_iff_ne]; omega
              subst e1
              clear HTwo e2
              go_wp2_with fail
              refine (HCl.out _).mono ?_
              rintro e w6 ⟨rfl, hb⟩
              replace HB := bel_tr HB hb
              clear hb HCl
              go_wp2_with fail
              refine (HK.out _ (HL.out.below HB.out)).mono ?_
              rintro e w7 ⟨rfl, hb⟩
              replace HB := bel_tr HB hb
              clear hb
              go_wp2_with fail
              go_ret
              exact ⟨rfl, HB.out⟩
          · have q5 : ((E1 : Int) == 0) = false := by rw [beq_eq_false_iff_ne]; omega
            clear HTwo e1
            go_wp2_with fail
            refine (HCl.out _).mono ?_
            rintro e w6 ⟨rfl, hb⟩
            replace HB := bel_tr HB hb
            clear hb HCl
            go_wp2_with fail
            refine (HK.out _ (HL.out.below HB.out)).mono ?_
            rintro e w7 ⟨rfl, hb⟩
            replace HB := bel_tr HB hb
            clear hb
            go_wp2_with fail
            go_ret
            exact ⟨rfl, HB.out⟩
    · have q3 : (((decR l).2 : Int) != 0) = true := by rw [bne_iff_ne]; omega
      generalize (decR l).2 = F at *
      generalize (decR l).1 = R at *
      clear hd
      go_wp2_with fail
      refine (HK.out _ (HL.out.below HB.out)).mono ?_
      rintro e w7 ⟨rfl, hb⟩
      replace HB := bel_tr HB hb
      clear hb
      go_wp2_with fail
      go_ret
      exact ⟨rfl, HB.out⟩
end Go.Proofs.YtjkiollopajmoabDoor.R
