/-
  The text of a dot, plainly, and what is read as one.
-/
import Derived.Test.YtmmcnpcijeahcabGreatDoorDPure
import Derived.Lib.ItoaNum
import Derived.Lib.ItoaMem
namespace Go.Proofs.YtmmcnpcijeahcabGreatDoor.D
set_option linter.unusedVariables false
open Go.Lib

def validR (d : Dt) : Bool := decide (0 < d.1) && decide (d.1 ≤ 64) && decide (0 < d.2) && decide (d.2 ≤ 4294967295)
theorem valid_iff {d : Dt} : validR d = true ↔ 0 < d.1 ∧ d.1 ≤ 64 ∧ 0 < d.2 ∧ d.2 ≤ 4294967295 := by
  unfold validR
  simp only [Bool.and_eq_true, decide_eq_true_eq]
  constructor
  · rintro ⟨⟨⟨h1, h2⟩, h3⟩, h4⟩; exact ⟨h1, h2, h3, h4⟩
  · rintro ⟨h1, h2, h3, h4⟩; exact ⟨⟨⟨h1, h2⟩, h3⟩, h4⟩
def rootR (d : Dt) : Bool := decide (d.1 = 0) && decide (d.2 = 0)
theorem root_iff {d : Dt} : rootR d = true ↔ d = (0, 0) := by
  unfold rootR
  simp only [Bool.and_eq_true, decide_eq_true_eq]
  exact ⟨fun ⟨h1, h2⟩ => Prod.ext h1 h2, fun h => by subst h; exact ⟨rfl, rfl⟩⟩
/-- Which dots have a text. -/
def named (d : Dt) : Prop := validR d = true ∨ rootR d = true
def rootT : List UInt8 := [114, 111, 111, 116]
def txtD (d : Dt) : List UInt8 := if rootR d = true then rootT else decDigits d.1.toNat ++ [46] ++ decDigits d.2.toNat

theorem dig_small {u : Nat} (h : u < 10) : decDigits u = [UInt8.ofNat (48 + u)] := by rw [decDigits, dif_pos h]
theorem dig_big {u : Nat} (h : ¬ u < 10) : decDigits u = decDigits (u / 10) ++ [UInt8.ofNat (48 + u % 10)] := by rw [decDigits, dif_neg h]
theorem dig_nat {d : Nat} (h : d < 10) : (UInt8.ofNat (48 + d)).toNat = 48 + d := by
  rw [UInt8.toNat_ofNat']
  exact Nat.mod_eq_of_lt (by omega)
theorem dig_ne (u : Nat) : decDigits u ≠ [] := by
  by_cases h : u < 10
  · rw [dig_small h]; simp
  · rw [dig_big h]; simp
/-- The first byte of digits is a digit. -/
theorem dig_first (u : Nat) : ∃ c t, decDigits u = c :: t ∧ 48 ≤ c.toNat ∧ c.toNat ≤ 57 := by
  induction u using Nat.strongRecOn with
  | _ u ih =>
    by_cases h : u < 10
    · exact ⟨_, [], dig_small h, by rw [dig_nat h]; omega, by rw [dig_nat h]; omega⟩
    · obtain ⟨c, t, he, h1, h2⟩ := ih (u / 10) (by omega)
      exact ⟨c, t ++ [UInt8.ofNat (48 + u % 10)], by rw [dig_big h, he]; rfl, h1, h2⟩

/-! ### Reading -/
/-- The reference's loop: two numbers, and which one is read. -/
def fP : Nat → Nat → Bool → List UInt8 → Option (Nat × Nat)
  | a, b, _, [] => some (a, b)
  | a, b, k, c :: t =>
    if 48 ≤ c.toNat ∧ c.toNat ≤ 57 then
      (if k = true then fP a (min 1099511627776 (10 * b + c.toNat - 48)) k t else fP (min 1099511627776 (10 * a + c.toNat - 48)) b k t)
    else if c.toNat = 46 ∧ k = false then fP a b true t else none
def prsD (l : List UInt8) : Option Dt :=
  if l = rootT then some (0, 0) else
  match fP 0 0 false l with
  | none => none
  | some (a, b) => if validR ((a : Int), (b : Int)) = true ∧ txtD ((a : Int), (b : Int)) = l then some ((a : Int), (b : Int)) else none
theorem fP_first (b : Nat) : ∀ (a : Nat) (t : List UInt8), a < 1099511627776 → fP 0 b false (decDigits a ++ t) = fP a b false t := by
  intro a
  induction a using Nat.strongRecOn with
  | _ a ih =>
    intro t ha
    by_cases h : a < 10
    · rw [dig_small h, List.singleton_append, fP, dig_nat h, if_pos (by omega), if_neg (by simp)]
      congr 1
      omega
    · rw [dig_big h, List.append_assoc, ih (a / 10) (by omega) _ (by omega), List.singleton_append, fP, dig_nat (Nat.mod_lt _ (by omega)), if_pos (by omega), if_neg (by simp)]
      congr 1
      omega
theorem fP_second (a : Nat) : ∀ (b : Nat) (t : List UInt8), b < 1099511627776 → fP a 0 true (decDigits b ++ t) = fP a b true t := by
  intro b
  induction b using Nat.strongRecOn with
  | _ b ih =>
    intro t hb
    by_cases h : b < 10
    · rw [dig_small h, List.singleton_append, fP, dig_nat h, if_pos (by omega), if_pos rfl]
      congr 1
      omega
    · rw [dig_big h, List.append_assoc, ih (b / 10) (by omega) _ (by omega), List.singleton_append, fP, dig_nat (Nat.mod_lt _ (by omega)), if_pos (by omega), if_pos rfl]
      congr 1
      omega
theorem fP_both (a b : Nat) (ha : a < 1099511627776) (hb : b < 1099511627776) : fP 0 0 false (decDigits a ++ [46] ++ decDigits b) = some (a, b) := by
  rw [List.append_assoc, fP_first 0 a _ ha, List.singleton_append, fP, if_neg (by decide), if_pos (by decide)]
  have := fP_second a b [] hb
  rw [List.append_nil] at this
  rw [this]
  rfl
theorem txt_root {d : Dt} (h : rootR d = true) : txtD d = rootT := by unfold txtD; rw [if_pos h]
theorem valid_not_root {d : Dt} (h : validR d = true) : rootR d = false := by
  rw [valid_iff] at h
  rw [← Bool.not_eq_true, root_iff]
  rintro rfl
  exact absurd h.1 (by omega)
theorem txt_valid {d : Dt} (h : validR d = true) : txtD d = decDigits d.1.toNat ++ [46] ++ decDigits d.2.toNat := by
  unfold txtD; rw [if_neg (by rw [valid_not_root h]; simp)]
theorem txt_ne_root {d : Dt} (h : validR d = true) : txtD d ≠ rootT := by
  rw [txt_valid h]
  obtain ⟨c, t, he, h1, h2⟩ := dig_first d.1.toNat
  rw [he]
  intro e
  have : c = 114 := by simpa [rootT] using congrArg List.head? e
  subst this
  exact absurd h2 (by decide)
theorem prs_txt {d : Dt} (h : named d) : prsD (txtD d) = some d := by
  rcases h with h | h
  · have hv := valid_iff.1 h
    unfold prsD
    rw [if_neg (txt_ne_root h), txt_valid h, fP_both _ _ (by omega) (by omega)]
    have e : (((d.1.toNat : Nat) : Int), ((d.2.toNat : Nat) : Int)) = d := Prod.ext (by show ((d.1.toNat : Nat) : Int) = d.1; omega) (by show ((d.2.toNat : Nat) : Int) = d.2; omega)
    simp only
    rw [e, if_pos ⟨h, txt_valid h⟩]
  · unfold prsD
    rw [txt_root h, if_pos rfl, root_iff.1 h]
theorem prs_back {l : List UInt8} {d : Dt} (h : prsD l = some d) : named d ∧ l = txtD d := by
  unfold prsD at h
  split at h
  · rename_i e
    cases h
    exact ⟨.inr rfl, by rw [e]; rfl⟩
  · split at h
    · cases h
    · split at h
      · rename_i hh
        cases h
        exact ⟨.inl hh.1, hh.2.symm⟩
      · cases h
theorem prs_none {l : List UInt8} (h : prsD l = none) : ∀ d, named d → l ≠ txtD d := by
  rintro d hd rfl
  rw [prs_txt hd] at h
  cases h
theorem txt_inj {d e : Dt} (hd : named d) (he : named e) (h : txtD d = txtD e) : d = e := by
  have h1 := prs_txt hd
  rw [h, prs_txt he] at h1
  exact (Option.some.inj h1).symm
end Go.Proofs.YtmmcnpcijeahcabGreatDoor.D
