/-
  What the operations on bits of layer 1 come to, as plain arithmetic.
-/
import Derived.Laws.BitsAllLaws
import Derived.WalkSmall
namespace Go.Proofs.Ytfmlenhakejefaa.V
set_option linter.unusedVariables false

theorem ofInt_neg (m : Nat) (h : m < 9223372036854775808) : BitVec.ofInt 64 (-1 - (m : Int)) = ~~~ BitVec.ofInt 64 (m : Int) := by
  apply BitVec.eq_of_toNat_eq
  rw [BitVec.toNat_not, ofInt_u64 m (by omega), BitVec.toNat_ofInt]
  omega

theorem not_i64 (n : Int) (h : -9223372036854775808 ≤ n) (h' : n ≤ 9223372036854775807) : bits .xor .i64 (-1) n = -1 - n := by
  show IntKind.i64.wrap ((BitVec.ofInt 64 (-1) ^^^ BitVec.ofInt 64 n).toNat : Int) = _
  have h1 : BitVec.ofInt 64 (-1) = BitVec.allOnes 64 := by decide
  rw [h1, BitVec.allOnes_xor]
  by_cases hn : 0 ≤ n
  · obtain ⟨a, rfl⟩ := Int.eq_ofNat_of_zero_le hn
    rw [BitVec.toNat_not, ofInt_u64 a (by omega)]
    simp [IntKind.wrap, IntKind.bits, IntKind.signed]
    omega
  · obtain ⟨m, hm⟩ : ∃ m : Nat, n = -1 - (m : Int) := ⟨(-1 - n).toNat, by omega⟩
    subst hm
    rw [ofInt_neg m (by omega), BitVec.not_not, ofInt_u64 m (by omega)]
    simp [IntKind.wrap, IntKind.bits, IntKind.signed]
    omega

theorem or_one (x : Nat) (h : x < 18446744073709551616) (h2 : x % 2 = 0) : bits .or .u64 (x : Int) 1 = (x : Int) + 1 := by
  have := u64_or_nat x 1 h (by omega)
  rw [nat_join1 x 1 h2 (by omega)] at this
  simpa using this

theorem low7 (c : UInt8) : bits .andNot .u8 (c.toNat : Int) 128 = ((c.toNat % 128 : Nat) : Int) := by
  have hc := c.toNat_lt
  have := u8_andNot_nat c.toNat 128 (by omega) (by omega)
  rw [show (255 - 128 : Nat) = 127 by omega, nat_mask7] at this
  exact this

/-- A byte's seven low bits and the mark. -/
theorem or_128 (x : Nat) (h : x < 256) : bits .or .u8 (x : Int) 128 = ((x % 128 + 128 : Nat) : Int) := by
  rw [show (128 : Int) = ((128 : Nat) : Int) from rfl, u8_or_nat x 128 h (by omega)]
  congr 1
  have e : x ||| 128 = 128 * 1 ||| (x % 128 + 128 * (x / 128)) := by
    rw [Nat.or_comm]; congr 1; omega
  have hx : x / 128 = 0 ∨ x / 128 = 1 := by omega
  rcases hx with hx | hx
  · rw [Nat.or_comm, nat_join7 128 x (by omega) (by omega)]; omega
  · have hj := nat_join7 128 (x % 128) (by omega) (by omega)
    have hx2 : x = 128 ||| x % 128 := by rw [hj]; omega
    conv => lhs; rw [hx2]
    rw [Nat.or_comm (128 ||| x % 128) 128, ← Nat.or_assoc, Nat.or_self, hj]; omega

/-- The next group of seven bits lies above all that came before. -/
theorem or_group (a c i : Nat) (hi : i ≤ 9) (ha : a < 128 ^ i) (hc : c < 128) (h9 : i = 9 → c ≤ 1) :
    bits .or .u64 (a : Int) ((c * 128 ^ i : Nat) : Int) = ((a + c * 128 ^ i : Nat) : Int) := by
  have hp : (128 : Nat) ^ i = 2 ^ (7 * i) := by rw [Nat.pow_mul]
  have hcm : c * 128 ^ i < 18446744073709551616 := by
    rcases Nat.lt_or_ge i 9 with h' | h'
    · have h8 : (128 : Nat) ^ 8 = 72057594037927936 := by decide
      have hpw : (128 : Nat) ^ i ≤ 128 ^ 8 := Nat.pow_le_pow_right (by omega) (by omega)
      have := Nat.mul_le_mul (show c ≤ 127 by omega) hpw
      omega
    · have : i = 9 := by omega
      subst this
      have h8 : (128 : Nat) ^ 9 = 9223372036854775808 := by decide
      have := h9 rfl
      omega
  have ham : a < 18446744073709551616 := by
    have h8 : (128 : Nat) ^ 9 = 9223372036854775808 := by decide
    have hpw : (128 : Nat) ^ i ≤ 128 ^ 9 := Nat.pow_le_pow_right (by omega) (by omega)
    omega
  rw [u64_or_nat a _ ham hcm, Nat.or_comm, nat_join (7 * i) (c * 128 ^ i) a (by rw [← hp]; exact Nat.mul_mod_left _ _) (by rw [← hp]; exact ha), Nat.add_comm]

/-- So it stands in the walk. -/
theorem group_or (a g k : Nat) (hk : k ≤ 9) (ha : a < 128 ^ k) (hg : g < 128) (h9 : k = 9 → g ≤ 1) :
    bits .or .u64 (a : Int) (IntKind.u64.wrap ((g : Int) * 2 ^ (k * 7))) = ((a + g * 128 ^ k : Nat) : Int) := by
  have e := or_group a g k hk ha hg h9
  rw [← e]
  congr 1
  have hp : (128 : Nat) ^ k = 2 ^ (k * 7) := by rw [Nat.mul_comm, Nat.pow_mul]
  have hcm : g * 128 ^ k < 18446744073709551616 := by
    rcases Nat.lt_or_ge k 9 with h' | h'
    · have h8 : (128 : Nat) ^ 8 = 72057594037927936 := by decide
      have hpw : (128 : Nat) ^ k ≤ 128 ^ 8 := Nat.pow_le_pow_right (by omega) (by omega)
      have := Nat.mul_le_mul (show g ≤ 127 by omega) hpw
      omega
    · have : k = 9 := by omega
      subst this
      have h8 : (128 : Nat) ^ 9 = 9223372036854775808 := by decide
      have := h9 rfl
      omega
  have e2 : ((g : Int) * 2 ^ (k * 7)) = ((g * 128 ^ k : Nat) : Int) := by
    rw [hp]; simp
  rw [e2, IntKind.wrap_u64]
  omega

theorem group_or9 (a g : Nat) (ha : a < 128 ^ 9) (h9 : g ≤ 1) :
    bits .or .u64 (a : Int) (IntKind.u64.wrap ((g : Int) * 9223372036854775808)) = ((a + g * 128 ^ 9 : Nat) : Int) := by
  have e := group_or a g 9 (by omega) ha (by omega) (fun _ => h9)
  exact e
/-! The reference adds and multiplies. -/
theorem ref_n (x y m k : Nat) (hk : k ≤ 9) (hx : x < 128 ^ k) (hy : y = 128 ^ k) (h9 : k = 9 → m % 128 ≤ 1) :
    IntKind.u64.wrap ((x : Int) + IntKind.u64.wrap ((m : Int) % 128 * (y : Int))) = ((x + m % 128 * 128 ^ k : Nat) : Int) := by
  subst hy
  have hcm : m % 128 * 128 ^ k ≤ 9223372036854775808 := by
    rcases Nat.lt_or_ge k 9 with h' | h'
    · have h8 : (128 : Nat) ^ 8 = 72057594037927936 := by decide
      have hpw : (128 : Nat) ^ k ≤ 128 ^ 8 := Nat.pow_le_pow_right (by omega) (by omega)
      have := Nat.mul_le_mul (show m % 128 ≤ 127 by omega) hpw
      omega
    · have : k = 9 := by omega
      subst this
      have h8 : (128 : Nat) ^ 9 = 9223372036854775808 := by decide
      have := h9 rfl
      omega
  have hxm : x < 9223372036854775808 := by
    have h8 : (128 : Nat) ^ 9 = 9223372036854775808 := by decide
    have hpw : (128 : Nat) ^ k ≤ 128 ^ 9 := Nat.pow_le_pow_right (by omega) (by omega)
    omega
  have e : ((m : Int) % 128 * ((128 ^ k : Nat) : Int)) = ((m % 128 * 128 ^ k : Nat) : Int) := by rw [Int.natCast_mul, Int.natCast_emod]; rfl
  rw [e, IntKind.wrap_u64, IntKind.wrap_u64]
  omega

theorem ref_n0 (x k m : Nat) (hk : k ≤ 9) (hx : x < 128 ^ k) (h : m % 128 = 0) :
    IntKind.u64.wrap ((x : Int) + IntKind.u64.wrap 0) = ((x + m % 128 * 128 ^ k : Nat) : Int) := by
  have hxm : x < 9223372036854775808 := by
    have h8 : (128 : Nat) ^ 9 = 9223372036854775808 := by decide
    have hpw : (128 : Nat) ^ k ≤ 128 ^ 9 := Nat.pow_le_pow_right (by omega) (by omega)
    omega
  rw [h, Nat.zero_mul, Nat.add_zero, IntKind.wrap_u64, IntKind.wrap_u64]
  omega

theorem ref_y (y k : Nat) (hk : k ≤ 8) (hy : y = 128 ^ k) : IntKind.u64.wrap ((y : Int) * 128) = ((128 ^ (k + 1) : Nat) : Int) := by
  subst hy
  have h8 : (128 : Nat) ^ 8 = 72057594037927936 := by decide
  have hpw : (128 : Nat) ^ k ≤ 128 ^ 8 := Nat.pow_le_pow_right (by omega) (by omega)
  rw [IntKind.wrap_u64, Nat.pow_succ]
  omega

theorem ref_y9 (y : Nat) : IntKind.u64.wrap ((y : Int) * 128) = ((y * 128 % 18446744073709551616 : Nat) : Int) := by
  rw [IntKind.wrap_u64]
  omega
theorem ref_x9 (x m y : Nat) : IntKind.u64.wrap ((x : Int) + IntKind.u64.wrap ((m : Int) % 128 * (y : Int))) = (((x + m % 128 * y % 18446744073709551616) % 18446744073709551616 : Nat) : Int) := by
  have e : ((m : Int) % 128 * (y : Int)) = ((m % 128 * y : Nat) : Int) := by rw [Int.natCast_mul, Int.natCast_emod]; rfl
  rw [e, IntKind.wrap_u64, IntKind.wrap_u64]
  omega
end Go.Proofs.Ytfmlenhakejefaa.V
