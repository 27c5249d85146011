/-
  The law NodeMerges, as the row's frame asks for it.
-/
import Derived.Test.YtmmcnpcijeahcabGreatDoorNLMerges
import Derived.Test.YtmmcnpcijeahcabGreatDoorNLd
import Derived.Test.YtmmcnpcijeahcabGreatDoorNIn
namespace Go.Proofs.YtmmcnpcijeahcabGreatDoor.Nd
set_option linter.unusedVariables false
open Go.RowKit V D

theorem merges_law2 (a b : Nt) (w : World) (hL : Ln w) (ha : wfN a) (hb : wfN b) : Calls Tryz.prog 5 #[nv a, nv b] w fun e w' => e = .returned (.bool true) ∧ Below w.heap.size w w' := merges_law a b w hL ha.2.2.2 hb.2.2.2
end Go.Proofs.YtmmcnpcijeahcabGreatDoor.Nd
