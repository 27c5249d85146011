/-
  The law OmapStrings in the words of what comes in.
-/
import Derived.Test.YtmmcnpcijeahcaaTLStrings
import Derived.Test.YtmmcnpcijeahcaaJStrs
import Derived.Test.YtmmcnpcijeahcaaIn
namespace Go.Proofs.Ytmmcnpcijeahcaa.Jt
set_option linter.unusedVariables false
open Go.RowKit V

theorem strings_law2 (ls : List ByteArray) (a : Option Addr) (c : Nat) (w : World) (hlx : ls.length ≤ 9223372036854775807) (hx : J.RowS w a ls) (hn : a = none → c = 0) (hwf : ∀ x ∈ ls, x.size ≤ 9223372036854775807) (hc : ls.length ≤ c) :
    Calls Try.prog 5 #[.slice a ls.length c] w fun x w' => x = .returned (.bool true) ∧ Below w.heap.size w w' := by
  exact strings_law ls a c w hx hlx hwf
end Go.Proofs.Ytmmcnpcijeahcaa.Jt
