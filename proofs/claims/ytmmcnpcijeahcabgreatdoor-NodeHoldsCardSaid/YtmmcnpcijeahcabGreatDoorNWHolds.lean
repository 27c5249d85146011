/-
  The law NodeHolds, as the row's frame asks for it.
-/
import Derived.Test.YtmmcnpcijeahcabGreatDoorNLHolds
import Derived.Test.YtmmcnpcijeahcabGreatDoorNLd
import Derived.Test.YtmmcnpcijeahcabGreatDoorNIn
namespace Go.Proofs.YtmmcnpcijeahcabGreatDoor.Nd
set_option linter.unusedVariables false
open Go.RowKit V D

theorem holds_law2 (a b c : Nt) (w : World) (hL : Ln w) (ha : wfN a) (hb : wfN b) (hc : wfN c) : Calls Tryz.prog 7 #[nv a, nv b, nv c] w fun e w' => e = .returned (.bool true) ∧ Below w.heap.size w w' := holds_law a b c w hL
end Go.Proofs.YtmmcnpcijeahcabGreatDoor.Nd
