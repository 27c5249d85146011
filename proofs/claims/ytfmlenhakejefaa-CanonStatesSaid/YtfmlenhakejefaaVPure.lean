/-
  The numbers as bytes of layer 1, as plain functions of lists: no program is named here.
-/
namespace Go.Proofs.Ytfmlenhakejefaa.V
set_option linter.unusedVariables false

/-- The bytes of a number. -/
def num (n : Nat) : List UInt8 := if n < 128 then [UInt8.ofNat n] else UInt8.ofNat (n % 128 + 128) :: num (n / 128)
termination_by n
decreasing_by omega

/-- To read a number: the bytes that are left, how many were looked at, what they gave: the number, its size, an error. -/
def rd : List UInt8 → Nat → Nat → Nat × Nat × Nat
  | [], _, _ => (0, 0, 4)
  | c :: r, i, n =>
    if i = 9 ∧ 1 < c.toNat then (0, 0, 12)
    else if 128 ≤ c.toNat then rd r (i + 1) (n + (c.toNat - 128) * 128 ^ i)
    else if c.toNat = 0 ∧ 0 < i then (0, 0, 12)
    else (n + c.toNat * 128 ^ i, i + 1, 0)

def zig (n : Int) : Nat := if 0 ≤ n then (2 * n).toNat else (-2 * n - 1).toNat
def zag (n : Nat) : Int := if n % 2 = 0 then (n / 2 : Nat) else -((n / 2 : Nat) : Int) - 1

theorem num_small {n : Nat} (h : n < 128) : num n = [UInt8.ofNat n] := by rw [num, if_pos h]
theorem num_big {n : Nat} (h : ¬ n < 128) : num n = UInt8.ofNat (n % 128 + 128) :: num (n / 128) := by rw [num, if_neg h]

theorem zag_zig (n : Int) : zag (zig n) = n := by
  unfold zag zig
  by_cases h : 0 ≤ n
  · rw [if_pos h, if_pos (by omega)]; omega
  · rw [if_neg h, if_neg (by omega)]; omega
theorem zig_zag (n : Nat) : zig (zag n) = n := by
  unfold zag zig
  by_cases h : n % 2 = 0
  · rw [if_pos h, if_pos (by omega)]; omega
  · rw [if_neg h, if_neg (by omega)]; omega
theorem zig_lt {n : Int} (h : -9223372036854775808 ≤ n) (h' : n ≤ 9223372036854775807) : zig n < 18446744073709551616 := by
  unfold zig
  split <;> omega
theorem zag_lo {n : Nat} (h : n < 18446744073709551616) : -9223372036854775808 ≤ zag n := by
  unfold zag
  split <;> omega
theorem zag_hi {n : Nat} (h : n < 18446744073709551616) : zag n ≤ 9223372036854775807 := by
  unfold zag
  split <;> omega

theorem num_ne (n : Nat) : num n ≠ [] := by
  by_cases h : n < 128
  · rw [num_small h]; simp
  · rw [num_big h]; simp

theorem num_pos (n : Nat) : 0 < (num n).length := List.length_pos_iff.2 (num_ne n)

/-- A number below 128^k has at most k bytes. -/
theorem num_le : ∀ (k n : Nat), 0 < k → n < 128 ^ k → (num n).length ≤ k
  | 0, _, h, _ => by omega
  | k + 1, n, _, hn => by
    by_cases h : n < 128
    · rw [num_small h]; simp
    · rw [num_big h, List.length_cons]
      have hk : 0 < k := by
        rcases Nat.eq_zero_or_pos k with rfl | hk
        · simp at hn; omega
        · exact hk
      have : n / 128 < 128 ^ k := by
        rw [Nat.div_lt_iff_lt_mul (by omega)]
        rw [Nat.pow_succ] at hn
        exact hn
      have := num_le k (n / 128) hk this
      omega

theorem num_ten {n : Nat} (h : n < 18446744073709551616) : (num n).length ≤ 10 := num_le 10 n (by omega) (by omega)

/-- What was written is read. -/
theorem rd_num : ∀ (f n i a : Nat) (t : List UInt8), n < f → i ≤ 9 → n * 128 ^ i < 18446744073709551616 → (i = 0 ∨ 0 < n) →
    rd (num n ++ t) i a = (a + n * 128 ^ i, i + (num n).length, 0)
  | 0, n, _, _, _, h, _, _, _ => by omega
  | f + 1, n, i, a, t, hf, hi, hn, h0 => by
    have h9 : i = 9 → n ≤ 1 := by
      rintro rfl
      have : (128 : Nat) ^ 9 = 9223372036854775808 := by decide
      rw [this] at hn
      omega
    by_cases h : n < 128
    · rw [num_small h]
      have ht : (UInt8.ofNat n).toNat = n := by simp; omega
      simp only [List.cons_append, List.nil_append, rd, ht, List.length_cons, List.length_nil]
      rw [if_neg (by omega), if_neg (by omega), if_neg (by omega)]
    · rw [num_big h]
      have ht : (UInt8.ofNat (n % 128 + 128)).toNat = n % 128 + 128 := by simp; omega
      simp only [List.cons_append, rd, ht, List.length_cons]
      have hi9 : i < 9 := by
        rcases Nat.lt_or_ge i 9 with h' | h'
        · exact h'
        · have := h9 (by omega)
          omega
      have hs : n / 128 * 128 ^ (i + 1) ≤ n * 128 ^ i := by
        rw [Nat.pow_succ, ← Nat.mul_assoc, Nat.mul_right_comm]
        exact Nat.mul_le_mul_right _ (Nat.div_mul_le_self n 128)
      rw [if_neg (by omega), if_pos (by omega), rd_num f (n / 128) (i + 1) _ t (by omega) (by omega) (by omega) (by omega)]
      have e : n % 128 * 128 ^ i + n / 128 * 128 ^ (i + 1) = n * 128 ^ i := by
        rw [Nat.pow_succ, Nat.mul_comm (128 ^ i) 128, ← Nat.mul_assoc, ← Nat.add_mul]
        congr 1
        omega
      have e2 : a + (n % 128 + 128 - 128) * 128 ^ i + n / 128 * 128 ^ (i + 1) = a + n * 128 ^ i := by
        rw [Nat.add_sub_cancel]
        omega
      rw [e2]
      congr 2
      omega

theorem rd_written {n : Nat} (h : n < 18446744073709551616) (t : List UInt8) : rd (num n ++ t) 0 0 = (n, (num n).length, 0) := by
  rw [rd_num (n + 1) n 0 0 t (by omega) (by omega) (by simpa using h) (.inl rfl)]
  simp

/-- Fewer bytes than were written are too few. -/
theorem rd_take : ∀ (f n i a k : Nat), n < f → i ≤ 9 → n * 128 ^ i < 18446744073709551616 → k < (num n).length → rd ((num n).take k) i a = (0, 0, 4)
  | 0, _, _, _, _, h, _, _, _ => by omega
  | _ + 1, _, _, _, 0, _, _, _, _ => by simp [rd]
  | f + 1, n, i, a, k + 1, hf, hi, hn, hk => by
    have hb : ¬ n < 128 := by
      intro h
      rw [num_small h] at hk
      simp at hk
    rw [num_big hb] at hk ⊢
    have ht : (UInt8.ofNat (n % 128 + 128)).toNat = n % 128 + 128 := by simp; omega
    have hi9 : i < 9 := by
      rcases Nat.lt_or_ge i 9 with h' | h'
      · exact h'
      · have h9 : i = 9 := by omega
        subst h9
        have : (128 : Nat) ^ 9 = 9223372036854775808 := by decide
        rw [this] at hn
        omega
    have hs : n / 128 * 128 ^ (i + 1) ≤ n * 128 ^ i := by
      rw [Nat.pow_succ, ← Nat.mul_assoc, Nat.mul_right_comm]
      exact Nat.mul_le_mul_right _ (Nat.div_mul_le_self n 128)
    rw [List.take_succ_cons, rd, if_neg (by omega), if_pos (by omega)]
    rw [List.length_cons] at hk
    exact rd_take f (n / 128) (i + 1) _ k (by omega) (by omega) (by omega) (by omega)

/-- The last group of a number. -/
def lst (n : Nat) : Nat := if n < 128 then n else lst (n / 128)
termination_by n
decreasing_by omega
theorem lst_lt (k : Nat) : ∀ n, n < k → lst n < 128 := by
  induction k with
  | zero => intro n h; omega
  | succ k ih =>
    intro n h
    rw [lst]
    split
    · assumption
    · exact ih _ (by omega)
theorem num_last (k : Nat) : ∀ n, n < k → (num n)[(num n).length - 1]? = some (UInt8.ofNat (lst n)) := by
  induction k with
  | zero => intro n h; omega
  | succ k ih =>
    intro n h
    rw [lst]
    by_cases hb : n < 128
    · rw [num_small hb, if_pos hb]; rfl
    · rw [num_big hb, if_neg hb]
      have hp := num_pos (n / 128)
      have := ih (n / 128) (by omega)
      rw [List.length_cons, Nat.add_sub_cancel, show (num (n / 128)).length = (num (n / 128)).length - 1 + 1 by omega, List.getElem?_cons_succ]
      simpa using this
/-- A longer way to write a number is none. -/
theorem rd_longer : ∀ (f n i a : Nat), n < f → i ≤ 9 → n * 128 ^ i < 18446744073709551616 →
    rd ((num n).set ((num n).length - 1) (UInt8.ofNat (lst n + 128)) ++ [0]) i a = (0, 0, 12)
  | 0, _, _, _, h, _, _ => by omega
  | f + 1, n, i, a, hf, hi, hn => by
    rw [lst]
    by_cases hb : n < 128
    · rw [num_small hb, if_pos hb]
      have ht : (UInt8.ofNat (n + 128)).toNat = n + 128 := by simp; omega
      simp only [List.length_cons, List.length_nil, Nat.zero_add, Nat.sub_self, List.set_cons_zero, List.cons_append, List.nil_append, rd, ht]
      by_cases h9 : i = 9
      · rw [if_pos ⟨h9, by omega⟩]
      · rw [if_neg (by omega), if_pos (by omega)]
        have hz : (0 : UInt8).toNat = 0 := rfl
        rw [hz, if_neg (by omega), if_neg (by omega), if_pos ⟨rfl, by omega⟩]
    · rw [num_big hb, if_neg hb]
      have ht : (UInt8.ofNat (n % 128 + 128)).toNat = n % 128 + 128 := by simp; omega
      have hi9 : i < 9 := by
        rcases Nat.lt_or_ge i 9 with h' | h'
        · exact h'
        · have h9 : i = 9 := by omega
          subst h9
          have : (128 : Nat) ^ 9 = 9223372036854775808 := by decide
          rw [this] at hn
          omega
      have hs : n / 128 * 128 ^ (i + 1) ≤ n * 128 ^ i := by
        rw [Nat.pow_succ, ← Nat.mul_assoc, Nat.mul_right_comm]
        exact Nat.mul_le_mul_right _ (Nat.div_mul_le_self n 128)
      have hp := num_pos (n / 128)
      rw [List.length_cons, Nat.add_sub_cancel]
      obtain ⟨q, hq⟩ : ∃ q, (num (n / 128)).length = q + 1 := ⟨(num (n / 128)).length - 1, by omega⟩
      have ih := rd_longer f (n / 128) (i + 1) (a + (n % 128 + 128 - 128) * 128 ^ i) (by omega) (by omega) (by omega)
      rw [hq, Nat.add_sub_cancel] at ih
      rw [hq, List.set_cons_succ, List.cons_append, rd, ht, if_neg (by omega), if_pos (by omega)]
      exact ih

/-- What is read, written again, has just the bytes that were read. -/
theorem num_rd : ∀ (l : List UInt8) (i a : Nat), i ≤ 9 → a < 128 ^ i → (rd l i a).2.2 = 0 →
    ∃ m, (rd l i a).1 = a + m * 128 ^ i ∧ (i = 0 ∨ 0 < m) ∧ (rd l i a).2.1 = i + (num m).length ∧ (num m).length ≤ l.length ∧ l.take (num m).length = num m ∧ m * 128 ^ i < 18446744073709551616
  | [], _, _, _, _, h => by simp [rd] at h
  | c :: r, i, a, hi, ha, h => by
    have hc := c.toNat_lt
    rw [rd] at h ⊢
    by_cases h1 : i = 9 ∧ 1 < c.toNat
    · rw [if_pos h1] at h; simp at h
    · rw [if_neg h1] at h ⊢
      by_cases h2 : 128 ≤ c.toNat
      · rw [if_pos h2] at h ⊢
        have hp : 128 ^ (i + 1) = 128 * 128 ^ i := by rw [Nat.pow_succ, Nat.mul_comm]
        have hlt : (c.toNat - 128) * 128 ^ i ≤ 127 * 128 ^ i := Nat.mul_le_mul_right _ (by omega)
        obtain ⟨m, e1, e2, e3, e4, e5, e6⟩ := num_rd r (i + 1) _ (by omega) (by omega) h
        have hm : 0 < m := by omega
        refine ⟨(c.toNat - 128) + m * 128, ?_, .inr (by omega), ?_, ?_, ?_, ?_⟩
        · rw [e1, Nat.add_mul, hp, Nat.mul_assoc m]; omega
        all_goals have hb : ¬ (c.toNat - 128 + m * 128) < 128 := by omega
        all_goals have hq : (c.toNat - 128 + m * 128) / 128 = m := by omega
        all_goals have hr : (c.toNat - 128 + m * 128) % 128 + 128 = c.toNat := by omega
        · rw [num_big hb, hq, e3, List.length_cons]; omega
        · rw [num_big hb, hq, List.length_cons, List.length_cons]; omega
        · rw [num_big hb, hq, hr, List.length_cons, List.take_succ_cons, e5]
          simp
        · rw [hp, Nat.mul_left_comm] at e6
          have hi9 : i < 9 := by omega
          have hpw : 128 ^ i ≤ 128 ^ 8 := Nat.pow_le_pow_right (by omega) (by omega)
          have h8 : (128 : Nat) ^ 8 = 72057594037927936 := by decide
          rw [Nat.add_mul, Nat.mul_assoc]
          rcases Nat.lt_or_ge ((c.toNat - 128) * 128 ^ i + m * (128 * 128 ^ i)) 18446744073709551616 with hh | hh
          · exact hh
          · exfalso
            have hdvd : ∃ q, 18446744073709551616 = q * (128 * 128 ^ i) := by
              have : ∀ i, i ≤ 8 → ∃ q, 18446744073709551616 = q * (128 * 128 ^ i) := by
                intro i hi
                match i, hi with
                | 0, _ => exact ⟨144115188075855872, by decide⟩
                | 1, _ => exact ⟨1125899906842624, by decide⟩
                | 2, _ => exact ⟨8796093022208, by decide⟩
                | 3, _ => exact ⟨68719476736, by decide⟩
                | 4, _ => exact ⟨536870912, by decide⟩
                | 5, _ => exact ⟨4194304, by decide⟩
                | 6, _ => exact ⟨32768, by decide⟩
                | 7, _ => exact ⟨256, by decide⟩
                | 8, _ => exact ⟨2, by decide⟩
              exact this i (by omega)
            obtain ⟨q, hq'⟩ := hdvd
            have hmq : m < q := by
              rcases Nat.lt_or_ge m q with hh' | hh'
              · exact hh'
              · have := Nat.mul_le_mul_right (128 * 128 ^ i) hh'
                rw [Nat.mul_left_comm 128 m] at e6
                omega
            have := Nat.mul_le_mul_right (128 * 128 ^ i) (show m + 1 ≤ q by omega)
            rw [Nat.add_mul, Nat.one_mul] at this
            omega
      · rw [if_neg h2] at h ⊢
        by_cases h3 : c.toNat = 0 ∧ 0 < i
        · rw [if_pos h3] at h; simp at h
        · rw [if_neg h3]
          refine ⟨c.toNat, rfl, by omega, ?_, ?_, ?_, ?_⟩
          · rw [num_small (by omega)]; rfl
          · rw [num_small (by omega)]; simp
          · rw [num_small (by omega)]; simp
          · have h9 : i = 9 → c.toNat ≤ 1 := by omega
            rcases Nat.lt_or_ge i 9 with h' | h'
            · have hpw : 128 ^ i ≤ 128 ^ 8 := Nat.pow_le_pow_right (by omega) (by omega)
              have h8 : (128 : Nat) ^ 8 = 72057594037927936 := by decide
              have := Nat.mul_le_mul (show c.toNat ≤ 127 by omega) hpw
              omega
            · have : i = 9 := by omega
              subst this
              have h8 : (128 : Nat) ^ 9 = 9223372036854775808 := by decide
              have := h9 rfl
              omega

/-- Whoever reads a number gets one below 2^64, and no more bytes than there are. -/
theorem rd_ok {l : List UInt8} (h : (rd l 0 0).2.2 = 0) :
    (rd l 0 0).1 < 18446744073709551616 ∧ (rd l 0 0).2.1 = (num (rd l 0 0).1).length ∧ (rd l 0 0).2.1 ≤ l.length ∧ l.take (rd l 0 0).2.1 = num (rd l 0 0).1 := by
  obtain ⟨m, e1, _, e3, e4, e5, e6⟩ := num_rd l 0 0 (by omega) (by omega) h
  simp only [Nat.pow_zero, Nat.mul_one, Nat.zero_add] at e1 e3 e6
  rw [e1, e3]
  exact ⟨e6, rfl, e4, e5⟩

theorem rd_err : ∀ (l : List UInt8) (i a : Nat), (rd l i a).2.2 ≠ 0 → (rd l i a).1 = 0 ∧ (rd l i a).2.1 = 0 ∧ ((rd l i a).2.2 = 4 ∨ (rd l i a).2.2 = 12)
  | [], _, _, _ => by simp [rd]
  | c :: r, i, a, h => by
    rw [rd] at h ⊢
    by_cases h1 : i = 9 ∧ 1 < c.toNat
    · rw [if_pos h1]; simp
    · rw [if_neg h1] at h ⊢
      by_cases h2 : 128 ≤ c.toNat
      · rw [if_pos h2] at h ⊢
        exact rd_err r (i + 1) _ h
      · rw [if_neg h2] at h ⊢
        by_cases h3 : c.toNat = 0 ∧ 0 < i
        · rw [if_pos h3]; simp
        · rw [if_neg h3] at h; simp at h

/-- To read a number with a maximum: the number, its size, an error. -/
def rn (l : List UInt8) (most : Nat) : Nat × Nat × Nat := if (rd l 0 0).2.2 = 0 ∧ most < (rd l 0 0).1 then (0, 0, 3) else rd l 0 0
/-- To read bytes with their length. -/
def rs (l : List UInt8) (most : Int) : List UInt8 × Nat × Nat :=
  if (rd l 0 0).2.2 ≠ 0 then ([], 0, (rd l 0 0).2.2)
  else if most < 0 ∨ most < ((rd l 0 0).1 : Int) then ([], 0, 5)
  else if l.length - (rd l 0 0).2.1 < (rd l 0 0).1 then ([], 0, 4)
  else ((l.drop (rd l 0 0).2.1).take (rd l 0 0).1, (rd l 0 0).2.1 + (rd l 0 0).1, 0)

theorem rd_le (l : List UInt8) : (rd l 0 0).2.1 ≤ l.length := by
  by_cases h : (rd l 0 0).2.2 = 0
  · exact (rd_ok h).2.2.1
  · have := (rd_err l 0 0 h).2.1
    omega
theorem rd_lt (l : List UInt8) : (rd l 0 0).1 < 18446744073709551616 := by
  by_cases h : (rd l 0 0).2.2 = 0
  · exact (rd_ok h).1
  · have := (rd_err l 0 0 h).1
    omega
theorem rn_le (l : List UInt8) (most : Nat) : (rn l most).2.1 ≤ l.length := by
  unfold rn
  split
  · simp
  · exact rd_le l
theorem rs_le (l : List UInt8) (most : Int) : (rs l most).2.1 ≤ l.length := by
  have := rd_le l
  unfold rs
  split
  · simp
  split
  · simp
  split
  · simp
  · simp only; omega

theorem rn_fail {l : List UInt8} {n z e : Nat} (hd : rd l 0 0 = (n, z, e)) (most : Nat) (he : e ≠ 0) : rn l most = (0, 0, e) := by
  have := rd_err l 0 0 (by rw [hd]; exact he)
  rw [hd] at this
  unfold rn
  rw [hd, if_neg (fun h => he h.1)]
  simp only at this
  rw [this.1, this.2.1]
theorem rn_range {l : List UInt8} {n z e : Nat} (hd : rd l 0 0 = (n, z, e)) (most : Nat) (he : e = 0) (hm : most < n) : rn l most = (0, 0, 3) := by
  unfold rn
  rw [hd, if_pos ⟨he, hm⟩]
theorem rn_fine {l : List UInt8} {n z e : Nat} (hd : rd l 0 0 = (n, z, e)) (most : Nat) (he : e = 0) (hm : ¬ most < n) : rn l most = (n, z, 0) := by
  unfold rn
  rw [hd, if_neg (fun h => hm h.2), he]

theorem rn_lt (l : List UInt8) (most : Nat) : (rn l most).1 < 18446744073709551616 := by
  unfold rn
  split
  · simp
  · exact rd_lt l
theorem rn_zero (l : List UInt8) (most : Nat) : (rn l most).2.2 ≠ 0 → (rn l most).1 = 0 := by
  unfold rn
  split
  · simp
  · intro h
    exact (rd_err l 0 0 h).1

theorem rs_fail {l : List UInt8} {n z e : Nat} (hd : rd l 0 0 = (n, z, e)) (most : Int) (he : e ≠ 0) : rs l most = ([], 0, e) := by
  unfold rs
  rw [hd, if_pos he]
theorem rs_long {l : List UInt8} {n z e : Nat} (hd : rd l 0 0 = (n, z, e)) (most : Int) (he : e = 0) (hm : most < 0 ∨ most < (n : Int)) : rs l most = ([], 0, 5) := by
  unfold rs
  rw [hd, if_neg (fun h => h he), if_pos hm]
theorem rs_short {l : List UInt8} {n z e : Nat} (hd : rd l 0 0 = (n, z, e)) (most : Int) (he : e = 0) (hm : ¬ (most < 0 ∨ most < (n : Int))) (hs : l.length - z < n) : rs l most = ([], 0, 4) := by
  unfold rs
  rw [hd, if_neg (fun h => h he), if_neg hm, if_pos hs]
theorem rs_fine {l : List UInt8} {n z e : Nat} (hd : rd l 0 0 = (n, z, e)) (most : Int) (he : e = 0) (hm : ¬ (most < 0 ∨ most < (n : Int))) (hs : ¬ l.length - z < n) : rs l most = ((l.drop z).take n, z + n, 0) := by
  unfold rs
  rw [hd, if_neg (fun h => h he), if_neg hm, if_neg hs]

/-! What one more byte does to what is left to be read. -/
section
variable {l : List UInt8} {k a : Nat} {c : UInt8} (hd : l.drop k = c :: l.drop (k + 1)) (hr : rd l 0 0 = rd (l.drop k) k a)
include hd hr
theorem rd_over (h9 : k = 9) (h1 : 1 < c.toNat) : rd l 0 0 = (0, 0, 12) := by rw [hr, hd, rd, if_pos ⟨h9, h1⟩]
theorem rd_more (h9 : ¬ (k = 9 ∧ 1 < c.toNat)) (h1 : 128 ≤ c.toNat) : rd l 0 0 = rd (l.drop (k + 1)) (k + 1) (a + c.toNat % 128 * 128 ^ k) := by
  have := c.toNat_lt
  rw [hr, hd, rd, if_neg h9, if_pos h1, show c.toNat % 128 = c.toNat - 128 by omega]
theorem rd_high (h9 : k = 9) (h1 : 128 ≤ c.toNat) : rd l 0 0 = (0, 0, 12) := rd_over hd hr h9 (by omega)
theorem rd_zero (h1 : c.toNat = 0) (h2 : 0 < k) : rd l 0 0 = (0, 0, 12) := by
  rw [hr, hd, rd, if_neg (by omega), if_neg (by omega), if_pos ⟨h1, h2⟩]
theorem rd_last (h9 : ¬ (k = 9 ∧ 1 < c.toNat)) (h1 : c.toNat < 128) (h2 : ¬ (c.toNat = 0 ∧ 0 < k)) : rd l 0 0 = (a + c.toNat % 128 * 128 ^ k, k + 1, 0) := by
  rw [hr, hd, rd, if_neg h9, if_neg (by omega), if_neg h2, show c.toNat % 128 = c.toNat by omega]
end
theorem rd_none {l : List UInt8} {k a : Nat} (hr : rd l 0 0 = rd (l.drop k) k a) (h : l.length ≤ k) : rd l 0 0 = (0, 0, 4) := by
  rw [hr, List.drop_eq_nil_of_le h, rd]
/-- What came before stays below the next group. -/
theorem below_group {a g k : Nat} (ha : a < 128 ^ k) (hg : g < 128) : a + g * 128 ^ k < 128 ^ (k + 1) := by
  have : 128 ^ (k + 1) = 128 * 128 ^ k := by rw [Nat.pow_succ, Nat.mul_comm]
  have := Nat.mul_le_mul_right (128 ^ k) (show g ≤ 127 by omega)
  omega

end Go.Proofs.Ytfmlenhakejefaa.V
