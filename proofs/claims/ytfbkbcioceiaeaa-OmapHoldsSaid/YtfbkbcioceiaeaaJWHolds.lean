/-
  The law OmapHolds in the words of what comes in.
-/
import Derived.Test.YtfbkbcioceiaeaaJLHolds
import Derived.Test.YtfbkbcioceiaeaaIn
namespace Go.Proofs.Ytfbkbcioceiaeaa.J
set_option linter.unusedVariables false
open Go.RowKit V

theorem holds_law2 (d : Bool) (ls : List Ac) (a : Option Addr) (c : Nat) (t : Int) (w : World) (hlx : ls.length ≤ 9223372036854775807) (hx : RowA w a ls) (hn : a = none → c = 0) (hwf : ∀ x ∈ ls, wfA x) (hc : ls.length ≤ c) (h2 : (Lit.int .u8 t).wf = true) :
    Calls Try.prog 7 #[.bool d, .slice a ls.length c, .int .u8 t] w fun x w' => x = .returned (.bool true) ∧ Below w.heap.size w w' := by
  exact holds_law d ls a c t w hx hlx (G.wf_u8 h2).1 (G.wf_u8 h2).2
end Go.Proofs.Ytfbkbcioceiaeaa.J
