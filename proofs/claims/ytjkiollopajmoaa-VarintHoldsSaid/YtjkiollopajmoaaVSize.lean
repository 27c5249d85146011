/-
  How many bytes a number has: Len64 by its table, and Size.
-/
import Derived.Test.YtjkiollopajmoaaVWalkA
import Derived.Lib.Tables
import Derived.Lib.Hide
namespace Go.Proofs.Ytjkiollopajmoaa.V
set_option linter.unusedVariables false
open Go.RowKit

/-- r is the number of bits of n. -/
def Bits (n r : Nat) : Prop := n < 2 ^ r ∧ (n = 0 ∧ r = 0 ∨ 0 < n ∧ 2 ^ r ≤ 2 * n)

theorem len8_bits : ∀ i : Fin 256, Bits i.val (Lib.len8 (i.val : Int)).toNat ∧ (Lib.len8 (i.val : Int)) = ((Lib.len8 (i.val : Int)).toNat : Int) ∧ (Lib.len8 (i.val : Int)).toNat ≤ 8 := by
  unfold Bits
  decide +kernel

theorem bits_up {n q s r : Nat} (hq : q = n / 2 ^ s) (h : Bits q r) (hpos : 0 < q) : Bits n (s + r) := by
  obtain ⟨h1, h2⟩ := h
  have h2 := h2.resolve_left (by omega)
  have hp : 0 < 2 ^ s := Nat.pos_of_ne_zero (by simp)
  have hd := Nat.div_add_mod n (2 ^ s)
  have hm := Nat.mod_lt n hp
  rw [← hq] at hd
  refine ⟨?_, .inr ⟨?_, ?_⟩⟩
  · rw [Nat.pow_add]
    have := Nat.mul_le_mul_left (2 ^ s) (show q + 1 ≤ 2 ^ r by omega)
    rw [Nat.mul_add] at this
    omega
  · have := Nat.mul_le_mul_left (2 ^ s) (show 1 ≤ q by omega)
    omega
  · rw [Nat.pow_add]
    have := Nat.mul_le_mul_left (2 ^ s) h2.2
    rw [Nat.mul_left_comm] at this
    omega

/-- The size of a number by its bits. -/
theorem num_bits : ∀ (k n r : Nat), n < k → Bits n r → (num n).length = max 1 ((r + 6) / 7)
  | 0, _, _, h, _ => by omega
  | k + 1, n, r, hk, h => by
    obtain ⟨h1, h2⟩ := h
    have hpow : ∀ a b : Nat, 2 ^ a < 2 ^ b → a < b := fun a b h => (Nat.pow_lt_pow_iff_right (by omega)).1 h
    by_cases hn : n < 128
    · rw [num_small hn]
      have hr : r ≤ 7 := by
        rcases h2 with ⟨_, h2⟩ | ⟨_, h2⟩
        · omega
        · have : 2 ^ r < 2 ^ 8 := by omega
          have := hpow _ _ this
          omega
      simp; omega
    · rw [num_big hn, List.length_cons]
      have h2 := h2.resolve_left (by omega)
      have hr : 7 < r := hpow 7 r (by omega)
      obtain ⟨q, rfl⟩ : ∃ q, r = 7 + q := ⟨r - 7, by omega⟩
      rw [Nat.pow_add] at h1 h2
      have hq : Bits (n / 128) q := by
        refine ⟨by rw [Nat.div_lt_iff_lt_mul (by omega)]; omega, .inr ⟨by omega, ?_⟩⟩
        have hqpos : 0 < q := by omega
        obtain ⟨t, rfl⟩ : ∃ t, q = t + 1 := ⟨q - 1, by omega⟩
        rw [Nat.pow_succ] at h2 ⊢
        have : 2 ^ t ≤ n / 128 := by
          rw [Nat.le_div_iff_mul_le (by omega)]
          omega
        omega
      rw [num_bits k (n / 128) q (by omega) hq]
      omega

theorem len_fin (n s : Nat) (E : Int) (hE : E = ((n / 2 ^ s : Nat) : Int)) (h0 : E.toNat < Lib.len8tab.size) (hlt : E < 256) (hpos : 0 < E ∨ s = 0) (hs : s ≤ 56) :
    ∃ r : Nat, wrap64 ((s : Int) + wrap64 ((Lib.len8tab[E.toNat]'h0).toNat : Int)) = (r : Int) ∧ r ≤ 64 ∧ Bits n r := by
  obtain ⟨q, hq⟩ : ∃ q, q = n / 2 ^ s := ⟨_, rfl⟩
  rw [← hq] at hE
  subst hE
  have h3 := len8_bits ⟨q, by omega⟩
  obtain ⟨h4, h5, h6⟩ := h3
  simp only at h4 h5 h6
  have e : ((Lib.len8tab[(q : Int).toNat]'h0).toNat : Int) = Lib.len8 (q : Int) := by
    simp only [Lib.len8, ByteArray.getElem?_lt' _ _ h0, Option.getD_some]
  rw [e, h5]
  generalize (Lib.len8 (q : Int)).toNat = r8 at *
  refine ⟨s + r8, by unfold wrap64; omega, by omega, ?_⟩
  rcases hpos with hpos | hpos
  · exact bits_up hq h4 (by omega)
  · subst hpos
    simp at hq
    subst hq
    simpa using h4

theorem ret_len {n : Nat} {w : World} {a : Int} (h : ∃ r : Nat, a = (r : Int) ∧ r ≤ 64 ∧ Bits n r) : (∃ r : Nat, Ending.returned (.int .i64 a) = .returned (.int .i64 (r : Int)) ∧ r ≤ 64 ∧ Bits n r) ∧ w = w := by
  obtain ⟨r, rfl, h⟩ := h
  exact ⟨⟨r, rfl, h⟩, rfl⟩

set_option maxRecDepth 100000 in
set_option maxHeartbeats 1600000 in
theorem len64_any (n : Nat) (w : World) (h : n < 18446744073709551616) :
    Calls Try.prog 39 #[.int .u64 (n : Int)] w fun e w' => (∃ r : Nat, e = .returned (.int .i64 (r : Int)) ∧ r ≤ 64 ∧ Bits n r) ∧ w = w' := by
  obtain ⟨x, hx⟩ : ∃ x : Int, x = (n : Int) := ⟨_, rfl⟩
  rw [← hx]
  have hx0 : 0 ≤ x := by omega
  have hx1 : x ≤ 18446744073709551615 := by omega
  have HX := Lib.hid hx
  clear hx h
  go_enter Try.func39, Try.ntmps39
  go_wp2_with fail
  all_goals have hx := HX.out
  all_goals have hsz := Lib.len8tab_size
  all_goals first
    | (exfalso; omega)
    | (go_ret
       first
         | exact ret_len (len_fin n 56 (x / 4294967296 / 65536 / 256) (by rw [hx, show (2 : Nat) ^ 56 = 72057594037927936 from rfl]; omega) _ (by omega) (.inl (by omega)) (by omega))
         | exact ret_len (len_fin n 48 (x / 4294967296 / 65536) (by rw [hx, show (2 : Nat) ^ 48 = 281474976710656 from rfl]; omega) _ (by omega) (.inl (by omega)) (by omega))
         | exact ret_len (len_fin n 40 (x / 4294967296 / 256) (by rw [hx, show (2 : Nat) ^ 40 = 1099511627776 from rfl]; omega) _ (by omega) (.inl (by omega)) (by omega))
         | exact ret_len (len_fin n 32 (x / 4294967296) (by rw [hx, show (2 : Nat) ^ 32 = 4294967296 from rfl]; omega) _ (by omega) (.inl (by omega)) (by omega))
         | exact ret_len (len_fin n 24 (x / 65536 / 256) (by rw [hx, show (2 : Nat) ^ 24 = 16777216 from rfl]; omega) _ (by omega) (.inl (by omega)) (by omega))
         | exact ret_len (len_fin n 16 (x / 65536) (by rw [hx, show (2 : Nat) ^ 16 = 65536 from rfl]; omega) _ (by omega) (.inl (by omega)) (by omega))
         | exact ret_len (len_fin n 8 (x / 256) (by rw [hx, show (2 : Nat) ^ 8 = 256 from rfl]; omega) _ (by omega) (.inl (by omega)) (by omega))
         | (have h9 := len_fin n 0 x (by rw [hx, Nat.pow_zero, Nat.div_one]) (by omega) (by omega) (.inr rfl) (by omega)
            simp only [Int.natCast_zero, Int.zero_add] at h9
            exact ret_len h9))

set_option maxRecDepth 100000 in
set_option maxHeartbeats 400000 in
theorem size_any (n : Nat) (w : World) (h : n < 18446744073709551616) :
    Calls Try.prog 11 #[.int .u64 (n : Int)] w fun e w' => e = .returned (.int .i64 ((num n).length : Int)) ∧ w = w' := by
  have HL := Lib.hid (len64_any n w h)
  clear h
  go_enter Try.func11, Try.ntmps11
  go_wp2_with fail
  refine HL.out.mono ?_
  rintro e w' ⟨⟨r, rfl, hr, hb⟩, rfl⟩
  have HE := Lib.hid (num_bits (n + 1) n r (by omega) hb)
  clear hb
  go_wp2
  all_goals go_ret
  all_goals refine ⟨ret_i ?_, rfl⟩
  all_goals rw [HE.out]
  all_goals omega

end Go.Proofs.Ytjkiollopajmoaa.V
