/-
  unicode/utf8.ValidRune, walked here.
-/
import Derived.Test.YtfmlenhakejefaaVOwn
import Derived.Lib.Small
namespace Go.Proofs
set_option linter.unusedVariables false
open Go.RowKit

set_option maxHeartbeats 1000000 in
theorem Try.utf8_ValidRune (r : Int) (w : World) : Calls Try.prog 68 #[.int .i32 r] w fun e w' => e = .returned (.bool (Lib.validRune r)) ∧ w' = w := by
  go_enter Try.func68, Try.ntmps68
  go_wp2
  all_goals (go_ret; refine ⟨?_, rfl⟩; first | (show Ending.returned (.bool true) = _; rw [show Lib.validRune r = true by unfold Lib.validRune; exact decide_eq_true (by omega)]) | (show Ending.returned (.bool false) = _; rw [show Lib.validRune r = false by unfold Lib.validRune; exact decide_eq_false (by omega)]))
end Go.Proofs
