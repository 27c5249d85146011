/-
  Hexadecimal digits, and the names of runes, plainly.
-/
import Derived.Test.YtfmlenhakejefaaMRUtf
import Derived.Lib.Case
import Derived.Lib.Repeat
namespace Go.Proofs.Ytfmlenhakejefaa.R
set_option linter.unusedVariables false

/-- The digits of a number, the greatest first. -/
def digs (n : Nat) : List Nat := if n < 16 then [n] else digs (n / 16) ++ [n % 16]
termination_by n
decreasing_by omega
theorem digs_small {n : Nat} (h : n < 16) : digs n = [n] := by rw [digs, if_pos h]
theorem digs_big {n : Nat} (h : ¬ n < 16) : digs n = digs (n / 16) ++ [n % 16] := by rw [digs, if_neg h]

/-- The k last digits. -/
def lastk : Nat → Nat → List Nat
  | 0, _ => []
  | k + 1, n => n / 16 ^ k % 16 :: lastk k n
theorem lastk_length (k n : Nat) : (lastk k n).length = k := by
  induction k with
  | zero => rfl
  | succ k ih => simp [lastk, ih]
theorem lastk_snoc : ∀ (k n : Nat), lastk (k + 1) n = lastk k (n / 16) ++ [n % 16]
  | 0, n => by simp [lastk]
  | k + 1, n => by
    have := lastk_snoc k n
    rw [lastk, this, lastk, List.cons_append, Nat.div_div_eq_div_mul]
    congr 3
    rw [Nat.pow_succ, Nat.mul_comm]
theorem digs_lastk (n : Nat) : ∀ k, 16 ^ k ≤ n → n < 16 ^ (k + 1) → digs n = lastk (k + 1) n
  | 0, h1, h2 => by
    rw [digs_small (by simpa using h2)]
    simp [lastk]
    omega
  | k + 1, h1, h2 => by
    have hp : 16 ≤ 16 ^ (k + 1) := by
      have : 16 ^ 1 ≤ 16 ^ (k + 1) := Nat.pow_le_pow_right (by omega) (by omega)
      simpa using this
    rw [digs_big (by omega), lastk_snoc, digs_lastk (n / 16) k (by rw [Nat.le_div_iff_mul_le (by omega), ← Nat.pow_succ]; exact h1) (by rw [Nat.div_lt_iff_lt_mul (by omega), ← Nat.pow_succ]; exact h2)]
termination_by k => k
theorem digs_zero : digs 0 = [0] := digs_small (by omega)
theorem digs_lt : ∀ (n d : Nat), d ∈ digs n → d < 16 := by
  intro n
  induction n using Nat.strongRecOn with
  | _ n ih =>
    intro d hd
    by_cases h : n < 16
    · rw [digs_small h] at hd
      simp at hd; omega
    · rw [digs_big h] at hd
      simp only [List.mem_append, List.mem_singleton] at hd
      rcases hd with hd | hd
      · exact ih _ (by omega) d hd
      · omega
theorem digs_len (n : Nat) : ∀ k, n < 16 ^ k → 1 ≤ k → (digs n).length ≤ k := by
  induction n using Nat.strongRecOn with
  | _ n ih =>
    intro k hk h1
    by_cases h : n < 16
    · rw [digs_small h]; simpa using h1
    · rw [digs_big h, List.length_append]
      rcases k with _ | _ | k
      · omega
      · simp at hk; omega
      · have := ih (n / 16) (by omega) (k + 1) (by rw [Nat.div_lt_iff_lt_mul (by omega), ← Nat.pow_succ]; exact hk) (by omega)
        simp; omega
theorem digs_pos (n : Nat) : 1 ≤ (digs n).length := by
  by_cases h : n < 16
  · rw [digs_small h]; simp
  · rw [digs_big h]; simp

def dl (d : Nat) : UInt8 := if d < 10 then u (48 + d) else u (87 + d)
def du (d : Nat) : UInt8 := if d < 10 then u (48 + d) else u (55 + d)
theorem upper_dl {d : Nat} (h : d < 16) : Lib.upperB (dl d) = du d := by
  have : d = 0 ∨ d = 1 ∨ d = 2 ∨ d = 3 ∨ d = 4 ∨ d = 5 ∨ d = 6 ∨ d = 7 ∨ d = 8 ∨ d = 9 ∨ d = 10 ∨ d = 11 ∨ d = 12 ∨ d = 13 ∨ d = 14 ∨ d = 15 := by omega
  rcases this with rfl | rfl | rfl | rfl | rfl | rfl | rfl | rfl | rfl | rfl | rfl | rfl | rfl | rfl | rfl | rfl <;> rfl
theorem dl_ascii {d : Nat} (h : d < 16) : (dl d).toNat < 128 := by
  unfold dl; split <;> rw [u_toNat (by omega)] <;> omega
theorem upper_digs {l : List Nat} (h : ∀ d ∈ l, d < 16) : Lib.toUpperA (l.map dl) = l.map du := by
  unfold Lib.toUpperA
  rw [List.map_map]
  exact List.map_congr_left fun d hd => upper_dl (h d hd)

/-- The name of a rune. -/
def nm (n : Nat) : List UInt8 := [85, 43] ++ List.replicate (4 - (digs n).length) 48 ++ (digs n).map du

theorem lastk_zeros : ∀ (j k n : Nat), n < 16 ^ k → lastk (j + k) n = List.replicate j 0 ++ lastk k n
  | 0, k, n, h => by simp
  | j + 1, k, n, h => by
    have e : j + 1 + k = (j + k) + 1 := by omega
    rw [e, lastk, lastk_zeros j k n h, List.replicate_succ, List.cons_append]
    congr 1
    have hp : 16 ^ k ≤ 16 ^ (j + k) := Nat.pow_le_pow_right (by omega) (by omega)
    rw [Nat.div_eq_of_lt (by omega)]

/-- So many digits, and no more. -/
theorem nm_lastk (n k : Nat) (h4 : 4 ≤ k) (hn : n < 16 ^ k) (hk : k = 4 ∨ 16 ^ (k - 1) ≤ n) : nm n = [85, 43] ++ (lastk k n).map du := by
  unfold nm
  rw [List.append_assoc]
  congr 1
  have hz : (0 : Nat).repr = "0" := rfl
  have hd0 : du 0 = 48 := rfl
  rcases hk with rfl | hk
  · by_cases h1 : n < 16
    · rw [digs_small h1, show (4 : Nat) = 3 + 1 from rfl, lastk_zeros 3 1 n (by simpa using h1)]
      simp [lastk, List.replicate, hd0, Nat.mod_eq_of_lt h1]
    · by_cases h2 : n < 256
      · rw [digs_lastk n 1 (by simpa using h1) (by simpa using h2), show (4 : Nat) = 2 + 2 from rfl, lastk_zeros 2 2 n (by simpa using h2)]
        simp [lastk, List.replicate, hd0]
      · by_cases h3 : n < 4096
        · rw [digs_lastk n 2 (by simpa using h2) (by simpa using h3), show (4 : Nat) = 1 + 3 from rfl, lastk_zeros 1 3 n (by simpa using h3)]
          simp [lastk, List.replicate, hd0]
        · rw [digs_lastk n 3 (by simpa using h3) hn]
          simp [lastk]
  · obtain ⟨j, rfl⟩ : ∃ j, k = j + 1 := ⟨k - 1, by omega⟩
    rw [digs_lastk n j hk hn, lastk_length]
    have : 4 - (j + 1) = 0 := by omega
    rw [this]; rfl

/-! ### Reading digits -/
/-- The value of a digit of one of 36, or none. -/
def hv (c : UInt8) : Option Nat :=
  if 48 ≤ c.toNat ∧ c.toNat ≤ 57 then some (c.toNat - 48)
  else if 65 ≤ c.toNat ∧ c.toNat ≤ 70 then some (c.toNat - 55)
  else if 97 ≤ c.toNat ∧ c.toNat ≤ 102 then some (c.toNat - 87)
  else none
def pF (mx : Nat) : Nat → List UInt8 → Option Nat
  | acc, [] => some acc
  | acc, c :: t => match hv c with | none => none | some d => if mx < acc * 16 + d then none else pF mx (acc * 16 + d) t
/-- What the digits stand for, at most mx. -/
def pU (mx : Nat) (t : List UInt8) : Option Nat := if t = [] then none else pF mx 0 t

theorem hv_du {d : Nat} (h : d < 16) : hv (du d) = some d := by
  have : d = 0 ∨ d = 1 ∨ d = 2 ∨ d = 3 ∨ d = 4 ∨ d = 5 ∨ d = 6 ∨ d = 7 ∨ d = 8 ∨ d = 9 ∨ d = 10 ∨ d = 11 ∨ d = 12 ∨ d = 13 ∨ d = 14 ∨ d = 15 := by omega
  rcases this with rfl | rfl | rfl | rfl | rfl | rfl | rfl | rfl | rfl | rfl | rfl | rfl | rfl | rfl | rfl | rfl <;> rfl

theorem pF_lastk (mx n : Nat) (hn : n ≤ mx) : ∀ k acc, acc = n / 16 ^ k → pF mx acc ((lastk k n).map du) = some n
  | 0, acc, h => by simp [lastk, pF, h]
  | k + 1, acc, h => by
    have h16 : n / 16 ^ k % 16 < 16 := Nat.mod_lt _ (by omega)
    have hq : acc * 16 + n / 16 ^ k % 16 = n / 16 ^ k := by
      rw [h, Nat.pow_succ, ← Nat.div_div_eq_div_mul]
      omega
    have hle : n / 16 ^ k ≤ n := Nat.div_le_self _ _
    rw [lastk, List.map_cons, pF, hv_du h16]
    simp only [hq]
    rw [if_neg (by omega)]
    exact pF_lastk mx n hn k _ rfl
theorem pU_lastk (mx n k : Nat) (hn : n ≤ mx) (hk : n < 16 ^ k) (h1 : 1 ≤ k) : pU mx ((lastk k n).map du) = some n := by
  unfold pU
  have := lastk_length k n
  rw [if_neg (by intro e; have := congrArg List.length e; rw [List.length_map, lastk_length, List.length_nil] at this; omega)]
  exact pF_lastk mx n hn k 0 (by rw [Nat.div_eq_of_lt hk])

theorem nm_parts (n : Nat) (h : n ≤ 1114111) : ∃ k, 4 ≤ k ∧ k ≤ 6 ∧ n < 16 ^ k ∧ (k = 4 ∨ 16 ^ (k - 1) ≤ n) ∧ nm n = [85, 43] ++ (lastk k n).map du := by
  by_cases h1 : n < 65536
  · exact ⟨4, by omega, by omega, by simpa using h1, .inl rfl, nm_lastk n 4 (by omega) (by simpa using h1) (.inl rfl)⟩
  · by_cases h2 : n < 1048576
    · exact ⟨5, by omega, by omega, by simpa using h2, .inr (by simpa using h1), nm_lastk n 5 (by omega) (by simpa using h2) (.inr (by simpa using h1))⟩
    · exact ⟨6, by omega, by omega, by simp; omega, .inr (by simpa using h2), nm_lastk n 6 (by omega) (by simp; omega) (.inr (by simpa using h2))⟩
theorem nm_len (n : Nat) (h : n ≤ 1114111) : 6 ≤ (nm n).length ∧ (nm n).length ≤ 8 := by
  obtain ⟨k, h4, h6, _, _, e⟩ := nm_parts n h
  rw [e, List.length_append, List.length_map, lastk_length]
  simp; omega
/-- The name of one rune only. -/
theorem nm_pU (n : Nat) (h : n ≤ 1114111) : (nm n).take 2 = [85, 43] ∧ pU 2147483647 ((nm n).drop 2) = some n := by
  obtain ⟨k, h4, h6, hk, _, e⟩ := nm_parts n h
  rw [e]
  exact ⟨rfl, pU_lastk _ n k (by omega) hk (by omega)⟩

end Go.Proofs.Ytfmlenhakejefaa.R
