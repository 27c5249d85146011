/-
  The law NodeOrders, as the row's frame asks for it.
-/
import Derived.Test.YtkjhaonmmdcfhabGreatDoorNLOrders
import Derived.Test.YtkjhaonmmdcfhabGreatDoorNLd
import Derived.Test.YtkjhaonmmdcfhabGreatDoorNIn
namespace Go.Proofs.YtkjhaonmmdcfhabGreatDoor.Nd
set_option linter.unusedVariables false
open Go.RowKit V D

theorem orders_law2 (a b : Nt) (w : World) (hL : Ln w) (ha : wfN a) (hb : wfN b) : Calls Tryz.prog 3 #[nv a, nv b] w fun e w' => e = .returned (.bool true) ∧ Below w.heap.size w w' := orders_law a b w hL
end Go.Proofs.YtkjhaonmmdcfhabGreatDoor.Nd
