/-
  The law OmapPlays in the words of what comes in.
-/
import Derived.Test.YtfbkbcioceiaeaaJLPlays
import Derived.Test.YtfbkbcioceiaeaaIn
namespace Go.Proofs.Ytfbkbcioceiaeaa.J
set_option linter.unusedVariables false
open Go.RowKit V

theorem plays_law2 (d : Bool) (ls : List Ac) (a : Option Addr) (c : Nat) (w : World) (hlx : ls.length ≤ 9223372036854775807) (hx : RowA w a ls) (hn : a = none → c = 0) (hwf : ∀ x ∈ ls, wfA x) (hc : ls.length ≤ c) :
    Calls Try.prog 3 #[.bool d, .slice a ls.length c] w fun x w' => x = .returned (.bool true) ∧ Below w.heap.size w w' := by
  exact plays_law d ls a c w hx hlx
end Go.Proofs.Ytfbkbcioceiaeaa.J
