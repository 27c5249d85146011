/-
  The law NodeValid, as the row's frame asks for it.
-/
import Derived.Test.YtmmcnpcijeahcabGreatDoorNLValid
import Derived.Test.YtmmcnpcijeahcabGreatDoorNLd
import Derived.Test.YtmmcnpcijeahcabGreatDoorNIn
namespace Go.Proofs.YtmmcnpcijeahcabGreatDoor.Nd
set_option linter.unusedVariables false
open Go.RowKit V D

theorem valid_law2 (a : Nt) (w : World) (hL : Ln w) (ha : wfN a) : Calls Tryz.prog 3 #[nv a] w fun e w' => e = .returned (.bool true) ∧ Below w.heap.size w w' := valid_law a w hL ha.2.2.2
end Go.Proofs.YtmmcnpcijeahcabGreatDoor.Nd
