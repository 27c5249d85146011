/-
  The names of runes: what Name and ByName return.
-/
import Derived.Test.YtgopkffgljiblaaGreatRParse
import Derived.StillTailTactics
namespace Go.Proofs.YtgopkffgljiblaaGreat.R
set_option linter.unusedVariables false
open Go.RowKit V

theorem valid_lib (r : Int) : vld r = (r != 0 && Lib.validRune r) := by
  rw [Bool.eq_iff_iff, vld_iff, Bool.and_eq_true, bne_iff_ne]
  unfold Lib.validRune
  simp
  omega

set_option maxHeartbeats 400000 in
theorem valid_any (r : Int) (w : World) : Calls Tryz.prog 93 #[.int .i32 r] w fun e w' => e = .returned (.bool (vld r)) ∧ w = w' := by
  have HV := Lib.hid (valid_lib r)
  by_cases h : r = 0
  · subst h
    go_enter Tryz.func93, Tryz.ntmps93
    go_wp2_with fail
    go_ret
    exact ⟨rfl, rfl⟩
  · have h1 : (r != 0) = true := by rw [bne_iff_ne]; exact h
    have hb : Lib.validRune r = vld r := by rw [HV.out, h1, Bool.true_and]
    have HC := Lib.hid (Tryz.utf8_ValidRune r w)
    rw [hb] at HC
    clear hb
    go_enter Tryz.func93, Tryz.ntmps93
    go_wp2_with (go_at_call 101; refine HC.out.mono ?_; rintro e w' ⟨rfl, rfl⟩)
    go_ret
    exact ⟨rfl, rfl⟩
theorem valid_yes (r : Int) (w : World) (h : vld r = true) : Calls Tryz.prog 93 #[.int .i32 r] w fun e w' => e = .returned (.bool true) ∧ w = w' := by
  have := valid_any r w; rw [h] at this; exact this
theorem valid_not (r : Int) (w : World) (h : vld r = false) : Calls Tryz.prog 93 #[.int .i32 r] w fun e w' => e = .returned (.bool false) ∧ w = w' := by
  have := valid_any r w; rw [h] at this; exact this

/-- How many bytes a rune has. -/
def szr (r : Int) : Nat := if vld r = true then (enc r.toNat).length else 0
theorem szr_lib {r : Int} (h : vld r = true) : Lib.runeLen r = (szr r : Int) := by
  rw [vld_iff] at h
  unfold szr
  rw [if_pos (vld_iff.2 h)]
  unfold Lib.runeLen enc
  obtain ⟨n, rfl⟩ := Int.eq_ofNat_of_zero_le (show 0 ≤ r by omega)
  rw [Int.toNat_natCast, if_neg (by omega)]
  by_cases h1 : n < 128
  · rw [if_pos (by omega), if_pos h1]; rfl
  · rw [if_neg (by omega), if_neg h1]
    by_cases h2 : n < 2048
    · rw [if_pos (by omega), if_pos h2]; rfl
    · rw [if_neg (by omega), if_neg h2, if_neg (by omega)]
      by_cases h3 : n < 65536
      · rw [if_pos (by omega), if_pos h3]; rfl
      · rw [if_neg (by omega), if_neg h3, if_pos (by omega)]; rfl
theorem hex_ascii (n : Nat) : ∀ (j : Nat) (b : UInt8), (hex n)[j]? = some b → b.toNat < 128 := by
  intro j b h
  have := List.mem_of_getElem? h
  unfold hex at this
  simp only [List.mem_map] at this
  obtain ⟨d, hd, rfl⟩ := this
  exact dl_ascii (digs_lt n d hd)
theorem rep48 (c : Nat) : Lib.repeatL [48] c = List.replicate c 48 := by
  induction c with
  | zero => rfl
  | succ c ih => rw [Lib.repeatL, ih, List.replicate_succ]; rfl

end Go.Proofs.YtgopkffgljiblaaGreat.R
