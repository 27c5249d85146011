/-
  The reference of layer 2, plainly.
-/
import Derived.Test.YtmmcnpcijeahcabGreatDoorRDec
namespace Go.Proofs.YtmmcnpcijeahcabGreatDoor.R
set_option linter.unusedVariables false

def leadR (c : Nat) : Nat × Nat :=
  if c < 128 then (1, c) else if 192 ≤ c ∧ c < 224 then (2, c - 192) else if 224 ≤ c ∧ c < 240 then (3, c - 224) else if 240 ≤ c ∧ c < 248 then (4, c - 240) else (0, 0)
def acc (l : List UInt8) (n : Nat) : Nat → Nat
  | 0 => n
  | k + 1 => 64 * acc l n k + at8 l (k + 1) - 128
def isCont (l : List UInt8) (j : Nat) : Prop := 128 ≤ at8 l j ∧ at8 l j ≤ 191
theorem acc0 (l : List UInt8) (n : Nat) : acc l n 0 = n := rfl
theorem acc1 (l : List UInt8) (n : Nat) : acc l n 1 = 64 * n + at8 l 1 - 128 := rfl
theorem acc2 (l : List UInt8) (n : Nat) : acc l n 2 = 64 * (64 * n + at8 l 1 - 128) + at8 l 2 - 128 := rfl
theorem acc3 (l : List UInt8) (n : Nat) : acc l n 3 = 64 * (64 * (64 * n + at8 l 1 - 128) + at8 l 2 - 128) + at8 l 3 - 128 := rfl
/-- What first returns. -/
def firstR (l : List UInt8) : Nat × Nat := if bad (fst1 l) = true then (0, 0) else fst1 l

theorem cont_iff {l : List UInt8} {j : Nat} (hj : j < l.length) : cont l j = true ↔ isCont l j := by
  have := at8_lt l j
  simp only [cont, isCont, Bool.and_eq_true, decide_eq_true_eq, beq_iff_eq]
  omega
theorem cont_short {l : List UInt8} {j : Nat} (hj : l.length ≤ j) : cont l j = false := by
  simp only [cont, Bool.and_eq_false_iff, decide_eq_false_iff_not]
  left; omega

theorem firstR_none {l : List UInt8} (h : fst1 l = (65533, 1)) : firstR l = (0, 0) := by unfold firstR; rw [h, if_pos (by simp [bad])]

set_option maxRecDepth 20000 in
theorem fst1_lead (l : List UInt8) :
    fst1 l = if (leadR (at8 l 0)).1 = 1 then (at8 l 0, 1)
      else if (leadR (at8 l 0)).1 = 2 ∧ cont l 1 = true then (if 128 ≤ acc l (leadR (at8 l 0)).2 1 then (acc l (leadR (at8 l 0)).2 1, 2) else (65533, 1))
      else if (leadR (at8 l 0)).1 = 3 ∧ cont l 1 = true ∧ cont l 2 = true then (if 2048 ≤ acc l (leadR (at8 l 0)).2 2 ∧ scal (acc l (leadR (at8 l 0)).2 2) = true then (acc l (leadR (at8 l 0)).2 2, 3) else (65533, 1))
      else if (leadR (at8 l 0)).1 = 4 ∧ cont l 1 = true ∧ cont l 2 = true ∧ cont l 3 = true then (if 65536 ≤ acc l (leadR (at8 l 0)).2 3 ∧ scal (acc l (leadR (at8 l 0)).2 3) = true then (acc l (leadR (at8 l 0)).2 3, 4) else (65533, 1))
      else (65533, 1) := by
  have h0 := at8_lt l 0
  have c1 : cont l 1 = true → 128 ≤ at8 l 1 ∧ at8 l 1 ≤ 191 := fun h => by
    have := at8_lt l 1
    simp only [cont, Bool.and_eq_true, decide_eq_true_eq, beq_iff_eq] at h; omega
  have c2 : cont l 2 = true → 128 ≤ at8 l 2 ∧ at8 l 2 ≤ 191 := fun h => by
    have := at8_lt l 2
    simp only [cont, Bool.and_eq_true, decide_eq_true_eq, beq_iff_eq] at h; omega
  have c3 : cont l 3 = true → 128 ≤ at8 l 3 ∧ at8 l 3 ≤ 191 := fun h => by
    have := at8_lt l 3
    simp only [cont, Bool.and_eq_true, decide_eq_true_eq, beq_iff_eq] at h; omega
  unfold fst1
  rw [acc1, acc2, acc3]
  generalize at8 l 0 = b0 at *
  generalize at8 l 1 = b1 at *
  generalize at8 l 2 = b2 at *
  generalize at8 l 3 = b3 at *
  generalize cont l 1 = k1 at *
  generalize cont l 2 = k2 at *
  generalize cont l 3 = k3 at *
  unfold leadR
  by_cases h1 : b0 < 128
  · simp only [if_pos h1, if_true]
  · rw [if_neg h1, if_neg h1]
    by_cases h2 : 192 ≤ b0 ∧ b0 < 224
    · rw [if_pos h2]
      simp only [if_neg (show ¬ (2 : Nat) = 1 by omega), true_and]
      have e : (b0 / 32 == 6) = true := by simp; omega
      rw [e, Bool.true_and]
      cases k1
      · have e3 : (b0 / 16 == 14) = false := by simp; omega
        have e4 : (b0 / 8 == 30) = false := by simp; omega
        simp [e3, e4]
      · obtain ⟨q1, q2⟩ := c1 rfl
        have e5 : b0 % 32 * 64 + b1 % 64 = 64 * (b0 - 192) + b1 - 128 := by omega
        simp only [if_true, e5, ge_iff_le]
    · rw [if_neg h2]
      have e : (b0 / 32 == 6) = false := by simp; omega
      rw [e, Bool.false_and]
      by_cases h3 : 224 ≤ b0 ∧ b0 < 240
      · rw [if_pos h3]
        have e3 : (b0 / 16 == 14) = true := by simp; omega
        have e4 : (b0 / 8 == 30) = false := by simp; omega
        simp only [e3, e4, if_neg (show ¬ (3 : Nat) = 1 by omega), if_neg (show ¬ (false = true) by simp), Bool.true_and, true_and, show ¬ (3 : Nat) = 2 by omega, false_and, if_false, show ¬ (3 : Nat) = 4 by omega, Bool.false_and]
        cases k1
        · simp
        · cases k2
          · simp
          · obtain ⟨q1, q2⟩ := c1 rfl
            obtain ⟨q3, q4⟩ := c2 rfl
            have e5 : b0 % 16 * 4096 + b1 % 64 * 64 + b2 % 64 = 64 * (64 * (b0 - 224) + b1 - 128) + b2 - 128 := by omega
            simp only [Bool.and_self, and_self, if_true, e5, ge_iff_le, Bool.and_eq_true, decide_eq_true_eq]
      · rw [if_neg h3]
        have e3 : (b0 / 16 == 14) = false := by simp; omega
        by_cases h4 : 240 ≤ b0 ∧ b0 < 248
        · rw [if_pos h4]
          have e4 : (b0 / 8 == 30) = true := by simp; omega
          simp only [e3, e4, if_neg (show ¬ (false = true) by simp), Bool.true_and, true_and, show ¬ (4 : Nat) = 1 by omega, show ¬ (4 : Nat) = 2 by omega, show ¬ (4 : Nat) = 3 by omega, false_and, if_false, Bool.false_and]
          cases k1
          · simp
          · cases k2
            · simp
            · cases k3
              · simp
              · obtain ⟨q1, q2⟩ := c1 rfl
                obtain ⟨q3, q4⟩ := c2 rfl
                obtain ⟨q5, q6⟩ := c3 rfl
                have e5 : b0 % 8 * 262144 + b1 % 64 * 4096 + b2 % 64 * 64 + b3 % 64 = 64 * (64 * (64 * (b0 - 240) + b1 - 128) + b2 - 128) + b3 - 128 := by omega
                simp only [Bool.and_self, and_self, if_true, e5, ge_iff_le, Bool.and_eq_true, decide_eq_true_eq]
        · rw [if_neg h4]
          have e4 : (b0 / 8 == 30) = false := by simp; omega
          simp [e3, e4]

theorem lead_le (c : Nat) : (leadR c).1 ≤ 4 := by
  unfold leadR
  repeat' split
  all_goals simp

theorem firstR_short {l : List UInt8} (hl : l ≠ []) (h : (leadR (at8 l 0)).1 = 0 ∨ l.length < (leadR (at8 l 0)).1) : firstR l = (0, 0) := by
  apply firstR_none
  have hp := List.length_pos_iff.2 hl
  rw [fst1_lead]
  have h4 := lead_le (at8 l 0)
  generalize (leadR (at8 l 0)).1 = s at *
  have hs : s = 0 ∨ s = 2 ∨ s = 3 ∨ s = 4 := by omega
  rcases hs with rfl | rfl | rfl | rfl
  · simp
  · simp [cont_short (show l.length ≤ 1 by omega)]
  · simp [cont_short (show l.length ≤ 2 by omega)]
  · simp [cont_short (show l.length ≤ 3 by omega)]

theorem firstR_not {l : List UInt8} (j : Nat) (hj : 1 ≤ j) (hs : j < (leadR (at8 l 0)).1) (hl : (leadR (at8 l 0)).1 ≤ l.length) (h : ¬ isCont l j) : firstR l = (0, 0) := by
  apply firstR_none
  rw [fst1_lead]
  have h4 := lead_le (at8 l 0)
  have hc : cont l j = false := by
    cases hb : cont l j with
    | false => rfl
    | true => exact absurd ((cont_iff (by omega)).1 hb) h
  generalize (leadR (at8 l 0)).1 = s at *
  have hjs : j = 1 ∨ j = 2 ∨ j = 3 := by omega
  have hss : s = 2 ∨ s = 3 ∨ s = 4 := by omega
  rcases hjs with rfl | rfl | rfl <;> rcases hss with rfl | rfl | rfl <;> first | omega | simp [hc]

theorem enc_len_iff (n : Nat) : ((enc n).length = 1 ↔ n < 128) ∧ ((enc n).length = 2 ↔ 128 ≤ n ∧ n < 2048) ∧ ((enc n).length = 3 ↔ 2048 ≤ n ∧ n < 65536) ∧ ((enc n).length = 4 ↔ 65536 ≤ n) := by
  unfold enc
  by_cases h1 : n < 128
  · rw [if_pos h1]; simp; omega
  · rw [if_neg h1]
    by_cases h2 : n < 2048
    · rw [if_pos h2]; simp; omega
    · rw [if_neg h2]
      by_cases h3 : n < 65536
      · rw [if_pos h3]; simp; omega
      · rw [if_neg h3]; simp; omega

theorem firstR_all {l : List UInt8} (s : Nat) (hs : s = (leadR (at8 l 0)).1) (h1 : 1 ≤ s) (hl : s ≤ l.length) (hc : ∀ j, 1 ≤ j → j < s → isCont l j) :
    firstR l = if scal (acc l (leadR (at8 l 0)).2 (s - 1)) = true ∧ (enc (acc l (leadR (at8 l 0)).2 (s - 1))).length = s then (acc l (leadR (at8 l 0)).2 (s - 1), s) else (0, 0) := by
  have h4 := lead_le (at8 l 0)
  have hb0 := at8_lt l 0
  have hcc : ∀ j, 1 ≤ j → j < s → cont l j = true := fun j a b => (cont_iff (by omega)).2 (hc j a b)
  have hE := enc_len_iff (acc l (leadR (at8 l 0)).2 (s - 1))
  unfold firstR
  rw [fst1_lead, ← hs]
  rw [← hs] at h4
  have hss : s = 1 ∨ s = 2 ∨ s = 3 ∨ s = 4 := by omega
  rcases hss with rfl | rfl | rfl | rfl
  · have hlt : at8 l 0 < 128 := by
      unfold leadR at hs
      split at hs
      · assumption
      · repeat' split at hs
        all_goals simp at hs
    have e : (leadR (at8 l 0)).2 = at8 l 0 := by unfold leadR; rw [if_pos hlt]
    simp only [if_true, acc0, e, Nat.sub_self]
    have hsc : scal (at8 l 0) = true := scal_iff.2 (by omega)
    have hl1 : (enc (at8 l 0)).length = 1 := (enc_len_iff _).1.2 hlt
    rw [hsc, hl1]
    simp [bad]; omega
  · have e1 := hcc 1 (by omega) (by omega)
    have hac : acc l (leadR (at8 l 0)).2 1 < 2048 := by
      have := hc 1 (by omega) (by omega)
      unfold isCont at this
      have : (leadR (at8 l 0)).2 < 32 := by
        unfold leadR at hs ⊢
        split at hs
        · simp at hs
        · rename_i h0
          rw [if_neg h0]
          split at hs
          · rename_i h2; rw [if_pos h2]; simp only; omega
          · repeat' split at hs
            all_goals simp at hs
      rw [acc1]
      omega
    simp only [show ¬ (2 : Nat) = 1 by omega, if_false, e1, and_self, if_true, show (2 : Nat) - 1 = 1 by omega] at hE ⊢
    have hsc : scal (acc l (leadR (at8 l 0)).2 1) = true := scal_iff.2 (by omega)
    by_cases h128 : 128 ≤ acc l (leadR (at8 l 0)).2 1
    · have : (enc (acc l (leadR (at8 l 0)).2 1)).length = 2 := hE.2.1.2 ⟨h128, hac⟩
      simp [h128, hsc, this, bad]
    · have : ¬ (enc (acc l (leadR (at8 l 0)).2 1)).length = 2 := fun h => h128 (hE.2.1.1 h).1
      simp [h128, this, bad]
  · have e1 := hcc 1 (by omega) (by omega)
    have e2 := hcc 2 (by omega) (by omega)
    have hac : acc l (leadR (at8 l 0)).2 2 < 65536 := by
      have g1 := hc 1 (by omega) (by omega)
      have g2 := hc 2 (by omega) (by omega)
      unfold isCont at g1 g2
      have : (leadR (at8 l 0)).2 < 16 := by
        unfold leadR at hs ⊢
        split at hs
        · simp at hs
        · rename_i h0
          rw [if_neg h0]
          split at hs
          · simp at hs
          · rename_i h0
            rw [if_neg h0]
            split at hs
            · rename_i h2; rw [if_pos h2]; simp only; omega
            · repeat' split at hs
              all_goals simp at hs
      rw [acc2]
      omega
    simp only [show ¬ (3 : Nat) = 1 by omega, show ¬ (3 : Nat) = 2 by omega, false_and, if_false, e1, e2, and_self, if_true, show (3 : Nat) - 1 = 2 by omega] at hE ⊢
    by_cases hg : 2048 ≤ acc l (leadR (at8 l 0)).2 2
    · have : (enc (acc l (leadR (at8 l 0)).2 2)).length = 3 := hE.2.2.1.2 ⟨hg, hac⟩
      by_cases hsc : scal (acc l (leadR (at8 l 0)).2 2) = true
      · simp [hg, hsc, this, bad]
      · simp [hsc, bad]
    · have : ¬ (enc (acc l (leadR (at8 l 0)).2 2)).length = 3 := fun h => hg (hE.2.2.1.1 h).1
      simp [hg, this, bad]
  · have e1 := hcc 1 (by omega) (by omega)
    have e2 := hcc 2 (by omega) (by omega)
    have e3 := hcc 3 (by omega) (by omega)
    simp only [show ¬ (4 : Nat) = 1 by omega, show ¬ (4 : Nat) = 2 by omega, show ¬ (4 : Nat) = 3 by omega, false_and, if_false, e1, e2, e3, and_self, if_true, show (4 : Nat) - 1 = 3 by omega] at hE ⊢
    by_cases hg : 65536 ≤ acc l (leadR (at8 l 0)).2 3
    · have : (enc (acc l (leadR (at8 l 0)).2 3)).length = 4 := hE.2.2.2.2 hg
      by_cases hsc : scal (acc l (leadR (at8 l 0)).2 3) = true
      · simp [hg, hsc, this, bad]
      · simp [hsc, bad]
    · have : ¬ (enc (acc l (leadR (at8 l 0)).2 3)).length = 4 := fun h => hg (hE.2.2.2.1 h)
      simp [hg, this, bad]
end Go.Proofs.YtmmcnpcijeahcabGreatDoor.R
