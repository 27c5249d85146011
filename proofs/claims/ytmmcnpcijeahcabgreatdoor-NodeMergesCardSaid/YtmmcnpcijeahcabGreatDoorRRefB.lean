/-
  The reference of layer 2: the first character, and all of them.
-/
import Derived.Test.YtmmcnpcijeahcabGreatDoorRRefA
namespace Go.Proofs.YtmmcnpcijeahcabGreatDoor.R
set_option linter.unusedVariables false
open Go.RowKit V

theorem ba_ext {S : ByteArray} {l : List UInt8} (h : S.data.toList = l) : S = ⟨l.toArray⟩ := by
  apply ByteArray.ext
  rw [← h]
theorem idx_str (l : List UInt8) (k : Nat) (hk : k < l.length) (kd : IntKind) (w : World) :
    (Instr.index 9 (.string ⟨l.toArray⟩) (.int kd (k : Int))).run Tryz.prog w = .ok (.int .u8 (at8 l k : Int)) w := by
  have h1 : (⟨l.toArray⟩ : ByteArray)[k]? = some l[k] := by
    show (l.toArray)[k]? = _
    simp [hk]
  simp [Instr.index, run_underlying Tryz.underlying9, asIntOf, Result.andThen, h1, at8, hk]

end Go.Proofs.YtmmcnpcijeahcabGreatDoor.R
