/-
  The law OmapIterates in the words of what comes in.
-/
import Derived.Test.YtmmcnpcijeahcaaJLIterates
import Derived.Test.YtmmcnpcijeahcaaIn
namespace Go.Proofs.Ytmmcnpcijeahcaa.J
set_option linter.unusedVariables false
open Go.RowKit V

theorem iterates_law2 (d : Bool) (ls : List Ac) (a : Option Addr) (c : Nat) (k t : Int) (w : World) (hlx : ls.length ≤ 9223372036854775807) (hx : RowA w a ls) (hn : a = none → c = 0) (hwf : ∀ x ∈ ls, wfA x) (hc : ls.length ≤ c) (hk : (Lit.int .i64 k).wf = true) (h2 : (Lit.int .u8 t).wf = true) :
    Calls Try.prog 4 #[.bool d, .slice a ls.length c, .int .i64 k, .int .u8 t] w fun x w' => x = .returned (.bool true) ∧ Below w.heap.size w w' := by
  exact iterates_law d ls a c k t w hx hlx (G.wf_u8 h2).1 (G.wf_u8 h2).2
end Go.Proofs.Ytmmcnpcijeahcaa.J
