/-
  The law OmapNil in the words of what comes in.
-/
import Derived.Test.YtfbkbcioceiaeaaJLNil
import Derived.Test.YtfbkbcioceiaeaaIn
namespace Go.Proofs.Ytfbkbcioceiaeaa.J
set_option linter.unusedVariables false
open Go.RowKit V

theorem nil_law2 (k i : Int) (w : World) (h0 : (Lit.int .i64 k).wf = true) (h1 : (Lit.int .i64 i).wf = true) :
    Calls Try.prog 6 #[.int .i64 k, .int .i64 i] w fun x w' => x = .returned (.bool true) ∧ Below w.heap.size w w' := by
  exact nil_law k i w (G.wf_i64 h1).1 (G.wf_i64 h1).2
end Go.Proofs.Ytfbkbcioceiaeaa.J
