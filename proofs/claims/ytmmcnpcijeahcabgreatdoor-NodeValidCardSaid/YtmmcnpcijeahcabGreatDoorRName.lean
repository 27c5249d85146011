/-
  The names of runes: what Name and ByName return.
-/
import Derived.Test.YtmmcnpcijeahcabGreatDoorRParse
import Derived.StillTailTactics
namespace Go.Proofs.YtmmcnpcijeahcabGreatDoor.R
set_option linter.unusedVariables false
open Go.RowKit V

theorem iparse (l : List UInt8) (w : World) (hlen : l.length ≤ 140737488355328) :
    Calls Tryz.prog 85 #[.string ⟨l.toArray⟩, .int .i64 16, .int .i64 31] w fun e w' =>
      (∃ n, pU 2147483647 l = some n ∧ e = .returned (.tuple #[.int .u64 (n : Int), .nilIface]) ∧ Below w.heap.size w w') ∨
      (pU 2147483647 l = none ∧ ∃ v k, e = .returned (.tuple #[.int .u64 v, .iface 99 (.int .i64 k)]) ∧ (k = 1 ∨ k = 2) ∧ Below w.heap.size w w') := by
  rcases l with _ | ⟨c, t⟩
  · exact (parse_empty w).mono fun e w' ⟨he, hw⟩ => by subst hw; exact .inr ⟨rfl, _, _, he, .inr rfl, Below.refl _ _⟩
  · exact parse_any c t w hlen

set_option maxHeartbeats 1000000 in
theorem parse16 (l : List UInt8) (w : World) (hL : Ld w) (hlen : l.length ≤ 140737488355328) :
    Calls Tryz.prog 68 #[.string ⟨l.toArray⟩, .int .i64 16, .int .i64 31] w fun e w' => Below w.heap.size w w' ∧
      ((∃ n, pU 2147483647 l = some n ∧ e = .returned (.tuple #[.int .u64 (n : Int), .nilIface])) ∨
       (pU 2147483647 l = none ∧ ∃ v N, e = .returned (.tuple #[.int .u64 v, .iface 102 (.pointer (some ⟨N, 0, none⟩))]))) := by
  have HC := Lib.hid (iparse l w hlen)
  have HL := Lib.hid hL
  clear hL
  go_enter Tryz.func68, Tryz.ntmps68
  go_wp2_with fail
  refine HC.out.mono ?_
  intro e w1 h
  rcases h with ⟨n, hn, rfl, hb⟩ | ⟨hn, v, k, rfl, hk, hb⟩
  · have HN := Lib.hid hn
    have HB := Lib.hid hb
    clear hn hb
    go_wp2_with fail
    go_ret2
    exact ⟨HB.out, .inl ⟨n, HN.out, rfl⟩⟩
  · have HN := Lib.hid hn
    have HB := Lib.hid hb
    obtain ⟨-, ⟨e2, h2, g2⟩, ⟨e3, h3, g3⟩⟩ := HL.out.below hb
    have HS := Lib.hid (Tryz.strconv_toError_syntax ⟨#[80, 97, 114, 115, 101, 85, 105, 110, 116]⟩ ⟨l.toArray⟩ 16 31 e2 w1 (by simp [ByteArray.size]; omega) h2 g2)
    have HR := Lib.hid (Tryz.strconv_toError_range ⟨#[80, 97, 114, 115, 101, 85, 105, 110, 116]⟩ ⟨l.toArray⟩ 16 31 e3 w1 (by simp [ByteArray.size]; omega) h3 g3)
    clear hn hb h2 g2 h3 g3
    rcases hk with rfl | rfl
    · go_wp2_with fail
      refine HR.out.mono ?_
      rintro e w2 ⟨N, rfl, hN, hc, hb2⟩
      have HB2 := Lib.hid (HB.out.trans (hb2.mono HB.out.size))
      clear hc hb2
      go_wp2_with fail
      go_ret2
      exact ⟨HB2.out, .inr ⟨HN.out, _, N, rfl⟩⟩
    · go_wp2_with fail
      refine HS.out.mono ?_
      rintro e w2 ⟨N, rfl, hN, hc, hb2⟩
      have HB2 := Lib.hid (HB.out.trans (hb2.mono HB.out.size))
      clear hc hb2
      go_wp2_with fail
      go_ret2
      exact ⟨HB2.out, .inr ⟨HN.out, _, N, rfl⟩⟩

theorem valid_lib (r : Int) : vld r = (r != 0 && Lib.validRune r) := by
  rw [Bool.eq_iff_iff, vld_iff, Bool.and_eq_true, bne_iff_ne]
  unfold Lib.validRune
  simp
  omega

set_option maxHeartbeats 400000 in
theorem valid_any (r : Int) (w : World) : Calls Tryz.prog 26 #[.int .i32 r] w fun e w' => e = .returned (.bool (vld r)) ∧ w = w' := by
  have HV := Lib.hid (valid_lib r)
  by_cases h : r = 0
  · subst h
    go_enter Tryz.func26, Tryz.ntmps26
    go_wp2_with fail
    go_ret
    exact ⟨rfl, rfl⟩
  · have h1 : (r != 0) = true := by rw [bne_iff_ne]; exact h
    have hb : Lib.validRune r = vld r := by rw [HV.out, h1, Bool.true_and]
    have HC := Lib.hid (Tryz.utf8_ValidRune r w)
    rw [hb] at HC
    clear hb
    go_enter Tryz.func26, Tryz.ntmps26
    go_wp2_with (go_at_call 50; refine HC.out.mono ?_; rintro e w' ⟨rfl, rfl⟩)
    go_ret
    exact ⟨rfl, rfl⟩
theorem valid_yes (r : Int) (w : World) (h : vld r = true) : Calls Tryz.prog 26 #[.int .i32 r] w fun e w' => e = .returned (.bool true) ∧ w = w' := by
  have := valid_any r w; rw [h] at this; exact this
theorem valid_not (r : Int) (w : World) (h : vld r = false) : Calls Tryz.prog 26 #[.int .i32 r] w fun e w' => e = .returned (.bool false) ∧ w = w' := by
  have := valid_any r w; rw [h] at this; exact this

/-- How many bytes a rune has. -/
def szr (r : Int) : Nat := if vld r = true then (enc r.toNat).length else 0
theorem szr_lib {r : Int} (h : vld r = true) : Lib.runeLen r = (szr r : Int) := by
  rw [vld_iff] at h
  unfold szr
  rw [if_pos (vld_iff.2 h)]
  unfold Lib.runeLen enc
  obtain ⟨n, rfl⟩ := Int.eq_ofNat_of_zero_le (show 0 ≤ r by omega)
  rw [Int.toNat_natCast, if_neg (by omega)]
  by_cases h1 : n < 128
  · rw [if_pos (by omega), if_pos h1]; rfl
  · rw [if_neg (by omega), if_neg h1]
    by_cases h2 : n < 2048
    · rw [if_pos (by omega), if_pos h2]; rfl
    · rw [if_neg (by omega), if_neg h2, if_neg (by omega)]
      by_cases h3 : n < 65536
      · rw [if_pos (by omega), if_pos h3]; rfl
      · rw [if_neg (by omega), if_neg h3, if_pos (by omega)]; rfl
theorem hex_ascii (n : Nat) : ∀ (j : Nat) (b : UInt8), (hex n)[j]? = some b → b.toNat < 128 := by
  intro j b h
  have := List.mem_of_getElem? h
  unfold hex at this
  simp only [List.mem_map] at this
  obtain ⟨d, hd, rfl⟩ := this
  exact dl_ascii (digs_lt n d hd)
theorem rep48 (c : Nat) : Lib.repeatL [48] c = List.replicate c 48 := by
  induction c with
  | zero => rfl
  | succ c ih => rw [Lib.repeatL, ih, List.replicate_succ]; rfl

set_option maxRecDepth 100000 in
set_option maxHeartbeats 1000000 in
theorem name_yes (n : Nat) (h : vld (n : Int) = true) (w : World) (hL : Ld w) :
    Calls Tryz.prog 61 #[.int .i32 (n : Int)] w fun e w' => e = .returned (.tuple #[.string ⟨(nm n).toArray⟩, .int .i64 0]) ∧ Below w.heap.size w w' := by
  have hn := vld_iff.1 h
  have hn2 : n ≤ 1114111 := by omega
  have HV := Lib.hid (valid_yes n w h)
  have HF := Lib.hid (fmt16 n (by omega) w hL)
  have hlen : (hex n).length ≤ 16 := hex_len (by omega)
  have HU : Hid (Lib.toUpperA (hex n) = (digs n).map du) := upper_digs (digs_lt n)
  have hk : ((digs n).map du).length = (digs n).length := List.length_map _
  obtain ⟨k, hkk⟩ : ∃ k, k = (digs n).length := ⟨_, rfl⟩
  have HK : Hid (k = (digs n).length) := hkk
  have hk6 : k ≤ 6 := by rw [hkk]; exact digs_len n 6 (by omega) (by omega)
  have HKD : Hid (((digs n).map du).length = k) := by show _ = _; rw [hk, hkk]
  have HA := Lib.hid (hex_ascii n)
  clear h hn hL hk hkk
  go_enter Tryz.func61, Tryz.ntmps61
  go_wp2_with (go_at_call 26; refine HV.out.mono ?_; rintro e w' ⟨rfl, rfl⟩)
  refine HF.out.mono ?_
  rintro e w1 ⟨rfl, hb1⟩
  have HB1 := Lib.hid hb1
  have hU := Tryz.strings_ToUpper_ascii ⟨(hex n).toArray⟩ w1 (by simp [ByteArray.size]; omega) HA.out
  rw [show (⟨(hex n).toArray⟩ : ByteArray).data.toList = hex n from rfl, HU.out] at hU
  have HUC := Lib.hid hU
  clear hb1 hU HF HV
  go_wp2_with fail
  refine HUC.out.mono ?_
  rintro e w2 ⟨rfl, hb2⟩
  have HB2 := Lib.hid (HB1.out.trans (hb2.mono HB1.out.size))
  clear hb2 HUC
  generalize hD : (digs n).map du = D at *
  have HD := Lib.hid hD
  have hDk := HKD.out
  have HDk := Lib.hid hDk
  clear hD
  go_wp2_with fail
  obtain ⟨c, hc⟩ : ∃ c, c = 4 - k := ⟨_, rfl⟩
  have hm : max (0 : Int) (4 - (k : Int)) = (c : Int) := by omega
  rw [hm]
  have hc4 : c ≤ 4 := by omega
  have HR := Lib.hid (Tryz.strings_Repeat ⟨#[48]⟩ c w2 (by omega) (by show 1 * c ≤ _; omega))
  have HC := Lib.hid hc
  clear hc hm
  refine HR.out.mono ?_
  rintro e w3 ⟨rfl, hb3⟩
  rw [show Lib.repeatL (⟨#[48]⟩ : ByteArray).data.toList c = List.replicate c 48 from rep48 c]
  have HB3 := Lib.hid (HB2.out.trans (hb3.mono HB2.out.size))
  have hrl : (List.replicate c (48 : UInt8)).length = c := List.length_replicate
  have hnm : nm n = [85, 43] ++ List.replicate c 48 ++ D := by unfold nm; rw [HD.out, HC.out, HK.out]
  have HN := Lib.hid hnm
  generalize List.replicate c (48 : UInt8) = Z at *
  clear hb3 HR hnm
  go_wp2_with fail
  go_ret2
  refine ⟨G.ret2 ?_ rfl, HB3.out⟩
  show Value.string (⟨[85, 43].toArray⟩ ++ ⟨Z.toArray⟩ ++ ⟨D.toArray⟩) = _
  rw [G.str_app, G.str_app, HN.out]

set_option maxHeartbeats 400000 in
theorem name_not (r : Int) (h : vld r = false) (w : World) :
    Calls Tryz.prog 61 #[.int .i32 r] w fun e w' => e = .returned (.tuple #[.string ⟨#[]⟩, .int .i64 13]) ∧ w = w' := by
  have HV := Lib.hid (valid_not r w h)
  clear h
  go_enter Tryz.func61, Tryz.ntmps61
  go_wp2_with (go_at_call 26; refine HV.out.mono ?_; rintro e w' ⟨rfl, rfl⟩)
  go_ret2
  exact ⟨rfl, rfl⟩
end Go.Proofs.YtmmcnpcijeahcabGreatDoor.R
