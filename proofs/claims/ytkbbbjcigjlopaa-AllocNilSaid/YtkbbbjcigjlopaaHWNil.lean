/-
  The law AllocNil in the words of what comes in.
-/
import Derived.Test.YtkbbbjcigjlopaaHLNew
import Derived.Test.YtkbbbjcigjlopaaIn
namespace Go.Proofs.Ytkbbbjcigjlopaa.H
set_option linter.unusedVariables false
open Go.RowKit V D

theorem nil_law2 (n : Int) (w : World) (h0 : (Lit.int .i64 n).wf = true) :
    Calls Try.prog 6 #[.int .i64 n] w fun x w' => x = .returned (.bool true) ∧ Below w.heap.size w w' := nil_law n w
end Go.Proofs.Ytkbbbjcigjlopaa.H
