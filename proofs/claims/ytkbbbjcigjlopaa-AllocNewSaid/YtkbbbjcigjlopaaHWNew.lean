/-
  The law AllocNew in the words of what comes in.
-/
import Derived.Test.YtkbbbjcigjlopaaHLNew
import Derived.Test.YtkbbbjcigjlopaaIn
namespace Go.Proofs.Ytkbbbjcigjlopaa.H
set_option linter.unusedVariables false
open Go.RowKit V D

theorem new_law2 (r l e : Int) (w : World) (h0 : (Lit.int .i64 r).wf = true) (h1 : (Lit.int .i64 l).wf = true) (h2 : (Lit.int .i64 e).wf = true) :
    Calls Try.prog 3 #[.int .i64 r, .int .i64 l, .int .i64 e] w fun x w' => x = .returned (.bool true) ∧ Below w.heap.size w w' := new_law r l e w
end Go.Proofs.Ytkbbbjcigjlopaa.H
