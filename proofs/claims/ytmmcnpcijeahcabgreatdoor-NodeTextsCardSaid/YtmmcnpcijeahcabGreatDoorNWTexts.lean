/-
  The law NodeTexts, as the row's frame asks for it.
-/
import Derived.Test.YtmmcnpcijeahcabGreatDoorNLTexts
import Derived.Test.YtmmcnpcijeahcabGreatDoorNLd
import Derived.Test.YtmmcnpcijeahcabGreatDoorNIn
namespace Go.Proofs.YtmmcnpcijeahcabGreatDoor.Nd
set_option linter.unusedVariables false
open Go.RowKit V D

theorem texts_law2 (a : Nt) (s : List UInt8) (w : World) (hL : Ln w) (ha : wfN a) (hs : s.length ≤ 9223372036854775807) : Calls Tryz.prog 6 #[nv a, .string ⟨s.toArray⟩] w fun e w' => e = .returned (.bool true) ∧ Below w.heap.size w w' := texts_law a s w hL ha.2.2.2 hs
end Go.Proofs.YtmmcnpcijeahcabGreatDoor.Nd
