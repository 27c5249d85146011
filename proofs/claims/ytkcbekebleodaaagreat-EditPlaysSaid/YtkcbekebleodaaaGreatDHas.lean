/-
  The library's Index and Contains, the program's Has; the library's Grow and Concat at dots.
-/
import Derived.Test.YtkcbekebleodaaaGreatMDRefB
import Derived.Lib.AppendZeros
namespace Go.Proofs.YtkcbekebleodaaaGreat.D
set_option linter.unusedVariables false
open Go.RowKit V Go.Sort


/-- A row of two slices, in memory. -/
def Two (w : World) (g : Nat) (x y : Value) : Prop := w.cell? ⟨g, 0, none⟩ = some x ∧ w.cell? ⟨g, 1, none⟩ = some y

end Go.Proofs.YtkcbekebleodaaaGreat.D
