/-
  The law NodeOrders, as the row's frame asks for it.
-/
import Derived.Test.YtmmcnpcijeahcabGreatDoorNLOrders
import Derived.Test.YtmmcnpcijeahcabGreatDoorNLd
import Derived.Test.YtmmcnpcijeahcabGreatDoorNIn
namespace Go.Proofs.YtmmcnpcijeahcabGreatDoor.Nd
set_option linter.unusedVariables false
open Go.RowKit V D

theorem orders_law2 (a b : Nt) (w : World) (hL : Ln w) (ha : wfN a) (hb : wfN b) : Calls Tryz.prog 4 #[nv a, nv b] w fun e w' => e = .returned (.bool true) ∧ Below w.heap.size w w' := orders_law a b w hL
end Go.Proofs.YtmmcnpcijeahcabGreatDoor.Nd
