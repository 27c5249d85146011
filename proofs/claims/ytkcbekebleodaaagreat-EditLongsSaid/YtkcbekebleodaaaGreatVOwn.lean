/-
  Rows of bytes that a call has made itself, and what is appended to them.
-/
import Derived.Test.YtkcbekebleodaaaGreatRows
import Derived.Test.YtkcbekebleodaaaGreatVMem
import Derived.Laws.AppendOwnNone
namespace Go.Proofs.YtkcbekebleodaaaGreat.V
set_option linter.unusedVariables false
open Go.RowKit








/-- The row that an append leaves: the one that was there, or a new one. -/
def Grew (w : World) (v v' : Value) : Prop := v'.ownBlock = v.ownBlock ∨ ∃ k, v'.ownBlock = some k ∧ w.heap.size ≤ k




end Go.Proofs.YtkcbekebleodaaaGreat.V
