/-
  The names of runes: what Name and ByName return.
-/
import Derived.Test.YtkcbekebleodaaaGreatRParse
import Derived.StillTailTactics
namespace Go.Proofs.YtkcbekebleodaaaGreat.R
set_option linter.unusedVariables false
open Go.RowKit V

theorem valid_lib (r : Int) : vld r = (r != 0 && Lib.validRune r) := by
  rw [Bool.eq_iff_iff, vld_iff, Bool.and_eq_true, bne_iff_ne]
  unfold Lib.validRune
  simp
  omega

set_option maxHeartbeats 400000 in
theorem valid_any (r : Int) (w : World) : Calls Tryz.prog 67 #[.int .i32 r] w fun e w' => e = .returned (.bool (vld r)) ∧ w = w' := by
  have HV := Lib.hid (valid_lib r)
  by_cases h : r = 0
  · subst h
    go_enter Tryz.func67, Tryz.ntmps67
    go_wp2_with fail
    go_ret
    exact ⟨rfl, rfl⟩
  · have h1 : (r != 0) = true := by rw [bne_iff_ne]; exact h
    have hb : Lib.validRune r = vld r := by rw [HV.out, h1, Bool.true_and]
    have HC := Lib.hid (Tryz.utf8_ValidRune r w)
    rw [hb] at HC
    clear hb
    go_enter Tryz.func67, Tryz.ntmps67
    go_wp2_with (go_at_call 85; refine HC.out.mono ?_; rintro e w' ⟨rfl, rfl⟩)
    go_ret
    exact ⟨rfl, rfl⟩


end Go.Proofs.YtkcbekebleodaaaGreat.R
