/-
  The library's Grow and Concat at vectors.
-/
import Derived.Test.YteojbekkbgcmnabMEVal
import Derived.Lib.AppendZeros
import Derived.Lib.SliceRun
import Derived.Laws.MakeOwn
namespace Go.Proofs.Yteojbekkbgcmnab.E
set_option linter.unusedVariables false
open Go.RowKit V Go.Sort D

/-- A row of two slices, in memory. -/
def Two (w : World) (g : Nat) (x y : Value) : Prop := w.cell? ⟨g, 0, none⟩ = some x ∧ w.cell? ⟨g, 1, none⟩ = some y

end Go.Proofs.Yteojbekkbgcmnab.E
