/-
  The law AllocMany in the words of what comes in.
-/
import Derived.Test.YtkbbbjcigjlopaaHLMany
import Derived.Test.YtkbbbjcigjlopaaIn
namespace Go.Proofs.Ytkbbbjcigjlopaa.H
set_option linter.unusedVariables false
open Go.RowKit V D

theorem many_law2 (m l : Int) (w : World) (h0 : (Lit.int .i64 m).wf = true) (h1 : (Lit.int .i64 l).wf = true) :
    Calls Try.prog 5 #[.int .i64 m, .int .i64 l] w fun x w' => x = .returned (.bool true) ∧ Below w.heap.size w w' :=
  many_law m l w (G.wf_i64 h0).1 (G.wf_i64 h0).2 (G.wf_i64 h1).1 (G.wf_i64 h1).2
end Go.Proofs.Ytkbbbjcigjlopaa.H
