/-
  Hexadecimal text as numbers: the library's way.
-/
import Derived.Test.YtfmlenhakejefaaRBase
import Derived.Test.YtfmlenhakejefaaShelf
import Derived.Laws.EntriesVeiled
import Derived.Deep.CutRange
import Derived.Deep.CutBlock
namespace Go.Proofs.Ytfmlenhakejefaa.R
set_option linter.unusedVariables false
open Go.RowKit V

theorem lower_nat (c : UInt8) : ∃ m : UInt8, bits .or .u8 (c.toNat : Int) 32 = (m.toNat : Int) ∧ (m.toNat = if c.toNat / 32 % 2 = 1 then c.toNat else c.toNat + 32) := by
  have hc := c.toNat_lt
  have h := u8_or_nat c.toNat 32 (by omega) (by omega)
  have e : c.toNat ||| 32 = if c.toNat / 32 % 2 = 1 then c.toNat else c.toNat + 32 := by
    generalize c.toNat = n at *
    have : ∀ m : Fin 256, m.val ||| 32 = if m.val / 32 % 2 = 1 then m.val else m.val + 32 := by decide +kernel
    exact this ⟨n, by omega⟩
  rw [e] at h
  have hlt : (if c.toNat / 32 % 2 = 1 then c.toNat else c.toNat + 32) < 256 := by split <;> omega
  refine ⟨u (if c.toNat / 32 % 2 = 1 then c.toNat else c.toNat + 32), ?_, u_toNat hlt⟩
  rw [u_toNat hlt]
  exact h

theorem hv_dig {c : UInt8} (h : 48 ≤ c.toNat ∧ c.toNat ≤ 57) : hv c = some (c.toNat - 48) := by unfold hv; rw [if_pos h]
theorem hv_alpha {c : UInt8} {m : Nat} (hm : m = if c.toNat / 32 % 2 = 1 then c.toNat else c.toNat + 32) (h : ¬ (48 ≤ c.toNat ∧ c.toNat ≤ 57)) (h1 : 97 ≤ m ∧ m ≤ 122) :
    hv c = if m < 103 then some (m - 87) else none := by
  have hc := c.toNat_lt
  unfold hv
  rw [if_neg h]
  split at hm
  · by_cases h2 : 97 ≤ c.toNat ∧ c.toNat ≤ 102
    · rw [if_neg (by omega), if_pos h2, if_pos (by omega), hm]
    · rw [if_neg (by omega), if_neg h2, if_neg (by omega)]
  · by_cases h2 : 65 ≤ c.toNat ∧ c.toNat ≤ 70
    · rw [if_pos h2, if_pos (by omega)]; congr 1; omega
    · rw [if_neg h2, if_neg (by omega), if_neg (by omega)]
theorem hv_other {c : UInt8} {m : Nat} (hm : m = if c.toNat / 32 % 2 = 1 then c.toNat else c.toNat + 32) (h : ¬ (48 ≤ c.toNat ∧ c.toNat ≤ 57)) (h1 : ¬ (97 ≤ m ∧ m ≤ 122)) : hv c = none := by
  have hc := c.toNat_lt
  unfold hv
  rw [if_neg h]
  split at hm
  · rw [if_neg (by omega), if_neg (by omega)]
  · rw [if_neg (by omega), if_neg (by omega)]

end Go.Proofs.Ytfmlenhakejefaa.R
