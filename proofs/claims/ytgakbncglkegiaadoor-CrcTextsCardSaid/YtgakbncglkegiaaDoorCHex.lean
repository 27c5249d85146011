/-
  The text of a check sum, plainly: eight digits, and what is read as one.
-/
import Derived.Test.YtgakbncglkegiaaDoorCPure
namespace Go.Proofs.YtgakbncglkegiaaDoor.C
set_option linter.unusedVariables false

/-- The digits of a number, the greatest first. -/
def digs (n : Nat) : List Nat := if n < 16 then [n] else digs (n / 16) ++ [n % 16]
termination_by n
decreasing_by omega
theorem digs_small {n : Nat} (h : n < 16) : digs n = [n] := by rw [digs, if_pos h]
theorem digs_big {n : Nat} (h : ¬ n < 16) : digs n = digs (n / 16) ++ [n % 16] := by rw [digs, if_neg h]

/-- The k last digits. -/
def lastk : Nat → Nat → List Nat
  | 0, _ => []
  | k + 1, n => n / 16 ^ k % 16 :: lastk k n
theorem lastk_length (k n : Nat) : (lastk k n).length = k := by
  induction k with
  | zero => rfl
  | succ k ih => simp [lastk, ih]
theorem lastk_snoc : ∀ (k n : Nat), lastk (k + 1) n = lastk k (n / 16) ++ [n % 16]
  | 0, n => by simp [lastk]
  | k + 1, n => by
    have := lastk_snoc k n
    rw [lastk, this, lastk, List.cons_append, Nat.div_div_eq_div_mul]
    congr 3
    rw [Nat.pow_succ, Nat.mul_comm]
theorem digs_lastk (n : Nat) : ∀ k, 16 ^ k ≤ n → n < 16 ^ (k + 1) → digs n = lastk (k + 1) n
  | 0, h1, h2 => by
    rw [digs_small (by simpa using h2)]
    simp [lastk]
    omega
  | k + 1, h1, h2 => by
    have hp : 16 ≤ 16 ^ (k + 1) := by
      have : 16 ^ 1 ≤ 16 ^ (k + 1) := Nat.pow_le_pow_right (by omega) (by omega)
      simpa using this
    rw [digs_big (by omega), lastk_snoc, digs_lastk (n / 16) k (by rw [Nat.le_div_iff_mul_le (by omega), ← Nat.pow_succ]; exact h1) (by rw [Nat.div_lt_iff_lt_mul (by omega), ← Nat.pow_succ]; exact h2)]
termination_by k => k
theorem digs_zero : digs 0 = [0] := digs_small (by omega)
theorem digs_lt : ∀ (n d : Nat), d ∈ digs n → d < 16 := by
  intro n
  induction n using Nat.strongRecOn with
  | _ n ih =>
    intro d hd
    by_cases h : n < 16
    · rw [digs_small h] at hd
      simp at hd; omega
    · rw [digs_big h] at hd
      simp only [List.mem_append, List.mem_singleton] at hd
      rcases hd with hd | hd
      · exact ih _ (by omega) d hd
      · omega
theorem digs_len (n : Nat) : ∀ k, n < 16 ^ k → 1 ≤ k → (digs n).length ≤ k := by
  induction n using Nat.strongRecOn with
  | _ n ih =>
    intro k hk h1
    by_cases h : n < 16
    · rw [digs_small h]; simpa using h1
    · rw [digs_big h, List.length_append]
      rcases k with _ | _ | k
      · omega
      · simp at hk; omega
      · have := ih (n / 16) (by omega) (k + 1) (by rw [Nat.div_lt_iff_lt_mul (by omega), ← Nat.pow_succ]; exact hk) (by omega)
        simp; omega
theorem digs_pos (n : Nat) : 1 ≤ (digs n).length := by
  by_cases h : n < 16
  · rw [digs_small h]; simp
  · rw [digs_big h]; simp

def dl (d : Nat) : UInt8 := if d < 10 then u (48 + d) else u (87 + d)
theorem sixteen {d : Nat} (h : d < 16) : d = 0 ∨ d = 1 ∨ d = 2 ∨ d = 3 ∨ d = 4 ∨ d = 5 ∨ d = 6 ∨ d = 7 ∨ d = 8 ∨ d = 9 ∨ d = 10 ∨ d = 11 ∨ d = 12 ∨ d = 13 ∨ d = 14 ∨ d = 15 := by omega
theorem lastk_zeros : ∀ (j k n : Nat), n < 16 ^ k → lastk (j + k) n = List.replicate j 0 ++ lastk k n
  | 0, k, n, h => by simp
  | j + 1, k, n, h => by
    have e : j + 1 + k = (j + k) + 1 := by omega
    rw [e, lastk, lastk_zeros j k n h, List.replicate_succ, List.cons_append]
    congr 1
    have hp : 16 ^ k ≤ 16 ^ (j + k) := Nat.pow_le_pow_right (by omega) (by omega)
    rw [Nat.div_eq_of_lt (by omega)]


/-- The text of a check sum. -/
def txt (n : Nat) : List UInt8 := (lastk 8 n).map dl
theorem txt_length (n : Nat) : (txt n).length = 8 := by unfold txt; rw [List.length_map, lastk_length]
theorem digs_txt (n : Nat) (hn : n < 4294967296) : List.replicate (8 - ((digs n).map dl).length) 48 ++ (digs n).map dl = txt n := by
  have hz : ∀ j, List.replicate j (48 : UInt8) = (List.replicate j 0).map dl := by intro j; rw [List.map_replicate]; rfl
  have key : ∀ k, 1 ≤ k → k ≤ 8 → n < 16 ^ k → digs n = lastk k n → List.replicate (8 - ((digs n).map dl).length) 48 ++ (digs n).map dl = txt n := by
    intro k h1 h8 hk e
    unfold txt
    rw [List.length_map, e, lastk_length, hz, ← List.map_append, ← lastk_zeros (8 - k) k n hk, show 8 - k + k = 8 by omega]
  by_cases h1 : n < 16
  · exact key 1 (by omega) (by omega) (by simpa using h1) (by rw [digs_small h1]; simp [lastk]; omega)
  · by_cases h2 : n < 256
    · exact key 2 (by omega) (by omega) (by simpa using h2) (digs_lastk n 1 (by omega) (by omega))
    · by_cases h3 : n < 4096
      · exact key 3 (by omega) (by omega) (by simpa using h3) (digs_lastk n 2 (by omega) (by omega))
      · by_cases h4 : n < 65536
        · exact key 4 (by omega) (by omega) (by simpa using h4) (digs_lastk n 3 (by omega) (by omega))
        · by_cases h5 : n < 1048576
          · exact key 5 (by omega) (by omega) (by simpa using h5) (digs_lastk n 4 (by omega) (by omega))
          · by_cases h6 : n < 16777216
            · exact key 6 (by omega) (by omega) (by simpa using h6) (digs_lastk n 5 (by omega) (by omega))
            · by_cases h7 : n < 268435456
              · exact key 7 (by omega) (by omega) (by simpa using h7) (digs_lastk n 6 (by omega) (by omega))
              · exact key 8 (by omega) (by omega) (by simpa using hn) (digs_lastk n 7 (by omega) (by omega))

/-! ### Reading digits -/
/-- The value of a digit of one of 36, or none. -/
def hv (c : UInt8) : Option Nat :=
  if 48 ≤ c.toNat ∧ c.toNat ≤ 57 then some (c.toNat - 48)
  else if 65 ≤ c.toNat ∧ c.toNat ≤ 70 then some (c.toNat - 55)
  else if 97 ≤ c.toNat ∧ c.toNat ≤ 102 then some (c.toNat - 87)
  else none
def pF (mx : Nat) : Nat → List UInt8 → Option Nat
  | acc, [] => some acc
  | acc, c :: t => match hv c with | none => none | some d => if mx < acc * 16 + d then none else pF mx (acc * 16 + d) t
/-- What the digits stand for, at most mx. -/
def pU (mx : Nat) (t : List UInt8) : Option Nat := if t = [] then none else pF mx 0 t

theorem hv_dl {d : Nat} (h : d < 16) : hv (dl d) = some d := by
  rcases sixteen h with rfl | rfl | rfl | rfl | rfl | rfl | rfl | rfl | rfl | rfl | rfl | rfl | rfl | rfl | rfl | rfl <;> rfl
theorem pF_lastk (mx n : Nat) (hn : n ≤ mx) : ∀ k acc, acc = n / 16 ^ k → pF mx acc ((lastk k n).map dl) = some n
  | 0, acc, h => by simp [lastk, pF, h]
  | k + 1, acc, h => by
    have h16 : n / 16 ^ k % 16 < 16 := Nat.mod_lt _ (by omega)
    have hq : acc * 16 + n / 16 ^ k % 16 = n / 16 ^ k := by
      rw [h, Nat.pow_succ, ← Nat.div_div_eq_div_mul]
      omega
    have hle : n / 16 ^ k ≤ n := Nat.div_le_self _ _
    rw [lastk, List.map_cons, pF, hv_dl h16]
    simp only [hq]
    rw [if_neg (by omega)]
    exact pF_lastk mx n hn k _ rfl
theorem pF_le (mx n : Nat) : ∀ (l : List UInt8) (acc : Nat), acc ≤ mx → pF mx acc l = some n → n ≤ mx
  | [], acc, h, e => by simp [pF] at e; omega
  | c :: t, acc, h, e => by
    rw [pF] at e
    split at e
    · cases e
    · split at e
      · cases e
      · exact pF_le mx n t _ (by omega) e
theorem pU_le {mx n : Nat} {l : List UInt8} (e : pU mx l = some n) : n ≤ mx := by
  unfold pU at e
  split at e
  · cases e
  · exact pF_le mx n l 0 (by omega) e
theorem pU_txt (n : Nat) (hn : n < 4294967296) : pU 4294967295 (txt n) = some n := by
  unfold pU
  rw [if_neg (by intro e; have := congrArg List.length e; rw [txt_length] at this; simp at this)]
  exact pF_lastk 4294967295 n (by omega) 8 0 (by rw [Nat.div_eq_of_lt]; simpa using hn)
theorem txt_inj {a b : Nat} (ha : a < 4294967296) (hb : b < 4294967296) (h : txt a = txt b) : a = b := by
  have h1 := pU_txt a ha
  rw [h, pU_txt b hb] at h1
  exact (Option.some.inj h1).symm

/-! ### Digits with small letters only -/
def lv (c : UInt8) : Option Nat :=
  if 48 ≤ c.toNat ∧ c.toNat ≤ 57 then some (c.toNat - 48)
  else if 97 ≤ c.toNat ∧ c.toNat ≤ 102 then some (c.toNat - 87)
  else none
def pv : Nat → List UInt8 → Option Nat
  | acc, [] => some acc
  | acc, c :: t => match lv c with | none => none | some d => pv (acc * 16 + d) t
/-- The check sum with a text. -/
def prs (l : List UInt8) : Option Nat := if l.length = 8 then pv 0 l else none
theorem lv_lt {c : UInt8} {d : Nat} (h : lv c = some d) : d < 16 ∧ dl d = c := by
  unfold lv at h
  split at h
  · cases h
    refine ⟨by omega, ?_⟩
    unfold dl
    rw [if_pos (by omega)]
    exact UInt8.toNat_inj.1 (by rw [u_toNat (by omega)]; omega)
  · split at h
    · cases h
      refine ⟨by omega, ?_⟩
      unfold dl
      rw [if_neg (by omega)]
      exact UInt8.toNat_inj.1 (by rw [u_toNat (by omega)]; omega)
    · cases h
theorem lv_dl {d : Nat} (h : d < 16) : lv (dl d) = some d := by
  rcases sixteen h with rfl | rfl | rfl | rfl | rfl | rfl | rfl | rfl | rfl | rfl | rfl | rfl | rfl | rfl | rfl | rfl <;> rfl
theorem pv_back : ∀ (l : List UInt8) (acc m : Nat), pv acc l = some m → m / 16 ^ l.length = acc ∧ l = (lastk l.length m).map dl
  | [], acc, m, h => by simp [pv] at h; subst h; simp [lastk]
  | c :: t, acc, m, h => by
    rw [pv] at h
    split at h
    · cases h
    · rename_i d hd
      obtain ⟨h1, h2⟩ := pv_back t _ _ h
      obtain ⟨h16, hc⟩ := lv_lt hd
      refine ⟨?_, ?_⟩
      · rw [List.length_cons, Nat.pow_succ, ← Nat.div_div_eq_div_mul, h1]; omega
      · rw [List.length_cons, lastk, h1, List.map_cons, ← h2, show (acc * 16 + d) % 16 = d by omega, hc]
theorem pv_lastk (n : Nat) : ∀ k acc, acc = n / 16 ^ k → pv acc ((lastk k n).map dl) = some n
  | 0, acc, h => by simp [lastk, pv, h]
  | k + 1, acc, h => by
    have h16 : n / 16 ^ k % 16 < 16 := Nat.mod_lt _ (by omega)
    have hq : acc * 16 + n / 16 ^ k % 16 = n / 16 ^ k := by
      rw [h, Nat.pow_succ, ← Nat.div_div_eq_div_mul]
      omega
    rw [lastk, List.map_cons, pv, lv_dl h16]
    simp only [hq]
    exact pv_lastk n k _ rfl
theorem prs_txt (n : Nat) (hn : n < 4294967296) : prs (txt n) = some n := by
  unfold prs
  rw [if_pos (txt_length n)]
  exact pv_lastk n 8 0 (by rw [Nat.div_eq_of_lt]; simpa using hn)
theorem prs_back {l : List UInt8} {n : Nat} (h : prs l = some n) : n < 4294967296 ∧ l = txt n := by
  unfold prs at h
  split at h
  · rename_i h8
    obtain ⟨h1, h2⟩ := pv_back l 0 n h
    rw [h8] at h1 h2
    refine ⟨?_, h2⟩
    have := Nat.div_eq_zero_iff.1 h1
    simp at this
    omega
  · cases h
theorem prs_none {l : List UInt8} (h : prs l = none) : ∀ n, n < 4294967296 → l ≠ txt n := by
  rintro n hn rfl
  rw [prs_txt n hn] at h
  cases h
/-- A beginning of digits stays within the kind. -/
theorem pv_lt : ∀ (l : List UInt8) (k acc m : Nat), acc < 16 ^ k → pv acc l = some m → m < 16 ^ (k + l.length)
  | [], k, acc, m, h, e => by simp [pv] at e; subst e; simpa using h
  | c :: t, k, acc, m, h, e => by
    rw [pv] at e
    split at e
    · cases e
    · rename_i d hd
      have := pv_lt t (k + 1) (acc * 16 + d) m (by have := (lv_lt hd).1; rw [Nat.pow_succ]; omega) e
      rw [List.length_cons, show k + (t.length + 1) = k + 1 + t.length by omega]
      exact this
end Go.Proofs.YtgakbncglkegiaaDoor.C
