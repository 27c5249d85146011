/-
  The small functions on numbers of layer 1: what each call returns, and that it leaves the world alone.
-/
import Derived.Test.YtfmlenhakejefaaRows
import Derived.Test.YtfmlenhakejefaaVPure
import Derived.Test.YtfmlenhakejefaaVBits
import Derived.WalkKit
import Derived.WalkSpells
import Derived.WalkLawsBesides
namespace Go.Proofs.Ytfmlenhakejefaa.V
set_option linter.unusedVariables false
open Go.RowKit

theorem ret_i {k : IntKind} {a b : Int} (h : a = b) : Ending.returned (.int k a) = .returned (.int k b) := by rw [h]

end Go.Proofs.Ytfmlenhakejefaa.V
