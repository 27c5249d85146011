/-
  CRC-32, plainly: the step of a bit and of a byte, the check sum, and what follows when one byte is changed.
-/
import Derived.WalkKit
namespace Go.Proofs.YtgakbncglkegiaaDoor.C
set_option linter.unusedVariables false

/-- The step of a bit. -/
def bit (n : Nat) : Nat := if n % 2 = 1 then n / 2 ^^^ 2197175160 else n / 2
def bits8 (n : Nat) : Nat := bit (bit (bit (bit (bit (bit (bit (bit n)))))))
def bits4 (n : Nat) : Nat := bit (bit (bit (bit n)))
/-- The step of a byte. -/
def stp (n : Nat) (x : UInt8) : Nat := bits8 (n ^^^ x.toNat)
/-- The steps of the bytes, one after the other. -/
def run (n : Nat) (l : List UInt8) : Nat := l.foldl stp n
/-- The check sum of some bytes, and then l, by the check sum of the first ones. -/
def upd (s : Nat) (l : List UInt8) : Nat := 4294967295 - run (4294967295 - s) l
def sum (l : List UInt8) : Nat := upd 0 l

theorem xor_lt {a b : Nat} (ha : a < 4294967296) (hb : b < 4294967296) : a ^^^ b < 4294967296 := Nat.xor_lt_two_pow (n := 32) ha hb
theorem bit_lt {n : Nat} (h : n < 4294967296) : bit n < 4294967296 := by
  unfold bit
  split
  · exact xor_lt (by omega) (by omega)
  · omega
theorem bits4_lt {n : Nat} (h : n < 4294967296) : bits4 n < 4294967296 := bit_lt (bit_lt (bit_lt (bit_lt h)))
theorem bits8_lt {n : Nat} (h : n < 4294967296) : bits8 n < 4294967296 := bits4_lt (bits4_lt h)
theorem stp_in {n : Nat} (h : n < 4294967296) (x : UInt8) : n ^^^ x.toNat < 4294967296 := xor_lt h (by have := x.toNat_lt; omega)
theorem stp_lt {n : Nat} (h : n < 4294967296) (x : UInt8) : stp n x < 4294967296 := bits8_lt (stp_in h x)
theorem run_lt : ∀ (l : List UInt8) {n : Nat}, n < 4294967296 → run n l < 4294967296
  | [], _, h => h
  | x :: t, _, h => run_lt t (stp_lt h x)
theorem upd_lt (s : Nat) (l : List UInt8) : upd s l < 4294967296 := by unfold upd; omega
theorem sum_lt (l : List UInt8) : sum l < 4294967296 := upd_lt 0 l

/-! ### Four steps by a table -/
theorem bit_xor (a b : Nat) : bit (a ^^^ b) = bit a ^^^ bit b := by
  have hm : (a ^^^ b) % 2 = (a % 2 + b % 2) % 2 := by
    have h : (a ^^^ b) % 2 = a % 2 ^^^ b % 2 := Nat.xor_mod_two_pow (n := 1)
    rw [h]
    rcases Nat.mod_two_eq_zero_or_one a with ha | ha <;> rcases Nat.mod_two_eq_zero_or_one b with hb | hb <;> rw [ha, hb] <;> rfl
  have hd : (a ^^^ b) / 2 = a / 2 ^^^ b / 2 := by
    have h : (a ^^^ b) >>> 1 = a >>> 1 ^^^ b >>> 1 := Nat.shiftRight_xor_distrib
    simpa [Nat.shiftRight_eq_div_pow] using h
  unfold bit
  rw [hd]
  rcases Nat.mod_two_eq_zero_or_one a with ha | ha <;> rcases Nat.mod_two_eq_zero_or_one b with hb | hb
  · rw [if_neg (by omega), if_neg (by omega), if_neg (by omega)]
  · rw [if_pos (by omega), if_neg (by omega), if_pos (by omega), Nat.xor_assoc]
  · rw [if_pos (by omega), if_pos (by omega), if_neg (by omega), Nat.xor_assoc, Nat.xor_assoc, Nat.xor_comm (b / 2)]
  · rw [if_neg (by omega), if_pos (by omega), if_pos (by omega)]
    rw [Nat.xor_assoc, Nat.xor_comm 2197175160, Nat.xor_assoc, Nat.xor_self, Nat.xor_zero]
theorem bits4_xor (a b : Nat) : bits4 (a ^^^ b) = bits4 a ^^^ bits4 b := by unfold bits4; rw [bit_xor, bit_xor, bit_xor, bit_xor]
theorem bit_even (n : Nat) : bit (2 * n) = n := by
  unfold bit
  rw [if_neg (by omega)]
  omega
theorem bits4_high (n : Nat) : bits4 (16 * n) = n := by
  unfold bits4
  rw [show 16 * n = 2 * (2 * (2 * (2 * n))) by omega, bit_even, bit_even, bit_even, bit_even]
theorem split16 (n : Nat) : n = (16 * (n / 16)) ^^^ (n % 16) := by
  have h : 16 * (n / 16) + n % 16 = (16 * (n / 16)) ||| (n % 16) := by
    have := Nat.two_pow_add_eq_or_of_lt (i := 4) (b := n % 16) (Nat.mod_lt _ (by omega)) (n / 16)
    simpa using this
  apply Nat.eq_of_testBit_eq
  intro i
  have h2 : n = (16 * (n / 16)) ||| (n % 16) := by rw [← h]; omega
  rw [Nat.testBit_xor]
  conv => lhs; rw [h2, Nat.testBit_or]
  by_cases hi : i < 4
  · have : (16 * (n / 16)).testBit i = false := by
      have := Nat.testBit_two_pow_mul (i := 4) (a := n / 16) (j := i)
      rw [show (2 : Nat) ^ 4 = 16 from rfl] at this
      rw [this]
      simp
      omega
    rw [this]; simp
  · have : (n % 16).testBit i = false := by
      apply Nat.testBit_lt_two_pow
      calc n % 16 < 16 := Nat.mod_lt _ (by omega)
        _ = 2 ^ 4 := rfl
        _ ≤ 2 ^ i := Nat.pow_le_pow_right (by omega) (by omega)
    rw [this]; simp
def nib (d : Nat) : Nat := [0, 274646895, 549293790, 820201905, 1098587580, 1361435347, 1640403810, 1905808397, 2197175160, 2460548119, 2722870694, 2987750089, 3280807620, 3553878443, 3811616794, 4084100981].getD d 0
theorem nib_bits (d : Nat) (h : d < 16) : bits4 d = nib d := by
  have : ∀ d : Fin 16, bits4 d.val = nib d.val := by decide +kernel
  exact this ⟨d, h⟩
theorem four (n : Nat) : n / 16 ^^^ nib (n % 16) = bits4 n := by
  have h := congrArg bits4 (split16 n)
  rw [bits4_xor, bits4_high, nib_bits _ (Nat.mod_lt _ (by omega))] at h
  exact h.symm
theorem eight (n : Nat) : bits4 (bits4 n) = bits8 n := rfl
theorem nib_lt {d : Nat} (h : d < 16) : nib d < 4294967296 := by rw [← nib_bits d h]; exact bits4_lt (by omega)

/-! ### Parts -/
theorem run_append (n : Nat) (l m : List UInt8) : run n (l ++ m) = run (run n l) m := List.foldl_append ..
theorem run_take (n : Nat) (l : List UInt8) (k : Nat) (h : k < l.length) : run n (l.take (k + 1)) = stp (run n (l.take k)) l[k] := by
  rw [List.take_succ_eq_append_getElem h, run_append]; rfl
theorem upd_parts (s : Nat) (l m : List UInt8) : upd (upd s l) m = upd s (l ++ m) := by
  unfold upd
  have := run_lt l (n := 4294967295 - s) (by omega)
  rw [run_append, show 4294967295 - (4294967295 - run (4294967295 - s) l) = run (4294967295 - s) l by omega]
theorem sum_parts (l m : List UInt8) : upd (sum l) m = sum (l ++ m) := upd_parts 0 l m

/-! ### One byte is another one -/
theorem bit_high {n : Nat} (h : n < 4294967296) : (bit n).testBit 31 = decide (n % 2 = 1) := by
  have h0 : (n / 2).testBit 31 = false := Nat.testBit_lt_two_pow (by omega)
  unfold bit
  split
  · rename_i h1
    rw [Nat.testBit_xor, h0, h1]; rfl
  · rename_i h1
    rw [h0]; simp [h1]
theorem bit_inj {a b : Nat} (ha : a < 4294967296) (hb : b < 4294967296) (h : bit a = bit b) : a = b := by
  have h1 := congrArg (fun n => n.testBit 31) h
  simp only [bit_high ha, bit_high hb] at h1
  have h2 : a % 2 = b % 2 := by
    rcases Nat.mod_two_eq_zero_or_one a with x | x <;> rcases Nat.mod_two_eq_zero_or_one b with y | y <;> simp [x, y] at h1 ⊢
  have h3 : a / 2 = b / 2 := by
    unfold bit at h
    rw [h2] at h
    split at h
    · have := congrArg (· ^^^ 2197175160) h
      simpa [Nat.xor_assoc] using this
    · exact h
  omega
theorem bits8_inj {a b : Nat} (ha : a < 4294967296) (hb : b < 4294967296) (h : bits8 a = bits8 b) : a = b := by
  have l1 := bit_lt ha
  have l2 := bit_lt l1
  have l3 := bit_lt l2
  have l4 := bit_lt l3
  have l5 := bit_lt l4
  have l6 := bit_lt l5
  have l7 := bit_lt l6
  have r1 := bit_lt hb
  have r2 := bit_lt r1
  have r3 := bit_lt r2
  have r4 := bit_lt r3
  have r5 := bit_lt r4
  have r6 := bit_lt r5
  have r7 := bit_lt r6
  exact bit_inj ha hb (bit_inj l1 r1 (bit_inj l2 r2 (bit_inj l3 r3 (bit_inj l4 r4 (bit_inj l5 r5 (bit_inj l6 r6 (bit_inj l7 r7 h)))))))
theorem xor_left {a b c : Nat} (h : c ^^^ a = c ^^^ b) : a = b := by
  have := congrArg (c ^^^ ·) h
  simpa [← Nat.xor_assoc] using this
theorem xor_right {a b c : Nat} (h : a ^^^ c = b ^^^ c) : a = b := xor_left (c := c) (by rw [Nat.xor_comm c a, Nat.xor_comm c b, h])
theorem stp_byte {n : Nat} (h : n < 4294967296) {x y : UInt8} (e : stp n x = stp n y) : x = y :=
  UInt8.toNat_inj.1 (xor_left (bits8_inj (stp_in h x) (stp_in h y) e))
theorem stp_num {a b : Nat} (ha : a < 4294967296) (hb : b < 4294967296) {x : UInt8} (e : stp a x = stp b x) : a = b :=
  xor_right (bits8_inj (stp_in ha x) (stp_in hb x) e)
theorem run_num : ∀ (l : List UInt8) {a b : Nat}, a < 4294967296 → b < 4294967296 → run a l = run b l → a = b
  | [], _, _, _, _, e => e
  | x :: t, _, _, ha, hb, e => stp_num ha hb (run_num t (stp_lt ha x) (stp_lt hb x) e)
theorem run_set : ∀ (l : List UInt8) (i : Nat) (h : i < l.length) (c : UInt8) {n : Nat}, n < 4294967296 → c ≠ l[i] → run n (l.set i c) ≠ run n l
  | x :: t, 0, _, c, n, hn, hc, e => hc (stp_byte hn (run_num t (stp_lt hn c) (stp_lt hn x) e))
  | x :: t, i + 1, h, c, n, hn, hc, e => run_set t i (by simpa using h) c (stp_lt hn x) (by simpa using hc) e
theorem sum_set (l : List UInt8) (i : Nat) (h : i < l.length) (c : UInt8) (hc : c ≠ l[i]) : sum (l.set i c) ≠ sum l := by
  unfold sum upd
  intro e
  have h1 := run_lt l (n := 4294967295 - 0) (by omega)
  have h2 := run_lt (l.set i c) (n := 4294967295 - 0) (by omega)
  exact run_set l i h c (n := 4294967295 - 0) (by omega) hc (by omega)

/-! ### The bytes of a check sum -/
def u (n : Nat) : UInt8 := UInt8.ofNat n
theorem u_toNat {n : Nat} (h : n < 256) : (u n).toNat = n := by
  unfold u
  rw [UInt8.toNat_ofNat']
  exact Nat.mod_eq_of_lt (by simpa using h)
/-- The highest byte first. -/
def be (z : Nat) : List UInt8 := [u (z / 16777216), u (z / 65536 % 256), u (z / 256 % 256), u (z % 256)]
theorem be_length (z : Nat) : (be z).length = 4 := rfl
theorem be_inj {a b : Nat} (ha : a < 4294967296) (hb : b < 4294967296) (h : be a = be b) : a = b := by
  simp only [be, List.cons.injEq, and_true] at h
  obtain ⟨h1, h2, h3, h4⟩ := h
  have e1 := congrArg UInt8.toNat h1
  have e2 := congrArg UInt8.toNat h2
  have e3 := congrArg UInt8.toNat h3
  have e4 := congrArg UInt8.toNat h4
  rw [u_toNat (by omega), u_toNat (by omega)] at e1 e2 e3 e4
  omega
/-- Bytes with their check sum, and without it. -/
def app (l : List UInt8) : List UInt8 := l ++ be (sum l)
def opn (l : List UInt8) : List UInt8 × Nat :=
  if l.length < 4 then ([], 4)
  else if be (sum (l.take (l.length - 4))) = l.drop (l.length - 4) then (l.take (l.length - 4), 0) else ([], 10)
theorem app_length (l : List UInt8) : (app l).length = l.length + 4 := by unfold app; rw [List.length_append, be_length]
theorem opn_app (l : List UInt8) : opn (app l) = (l, 0) := by
  unfold opn
  rw [app_length, if_neg (by omega), show l.length + 4 - 4 = l.length by omega]
  unfold app
  rw [List.take_left', List.drop_left', if_pos rfl] <;> rfl
/-- One byte of bytes with their check sum is another one. -/
theorem opn_set (l : List UInt8) (i : Nat) (h : i < (app l).length) (c : UInt8) (hc : c ≠ (app l)[i]) : opn ((app l).set i c) = ([], 10) := by
  have hlen := app_length l
  unfold opn
  rw [List.length_set, hlen, if_neg (by omega), show l.length + 4 - 4 = l.length by omega, if_neg]
  intro e
  by_cases hi : i < l.length
  · have hg : (app l)[i] = l[i] := by simp [app, hi]
    have ht : ((app l).set i c).take l.length = l.set i c := by
      rw [List.take_set]; unfold app; rw [List.take_left' rfl]
    have hd : ((app l).set i c).drop l.length = be (sum l) := by
      rw [List.drop_set_of_lt hi]; unfold app; rw [List.drop_left' rfl]
    rw [ht, hd] at e
    rw [hg] at hc
    exact sum_set l i hi c hc (be_inj (sum_lt _) (sum_lt _) e)
  · have ht : ((app l).set i c).take l.length = l := by
      rw [List.take_set_of_le (by omega)]; unfold app; rw [List.take_left' rfl]
    have hd : ((app l).set i c).drop l.length = (be (sum l)).set (i - l.length) c := by
      rw [List.drop_set, if_neg (by omega)]; unfold app; rw [List.drop_left' rfl]
    have hg : (app l)[i] = (be (sum l))[i - l.length]'(by rw [be_length]; omega) := by
      have h1 : (app l)[i]? = (be (sum l))[i - l.length]? := List.getElem?_append_right (by omega)
      rw [List.getElem?_eq_getElem h, List.getElem?_eq_getElem (by rw [be_length]; omega)] at h1
      exact Option.some.inj h1
    rw [ht, hd] at e
    rw [hg] at hc
    have hj : i - l.length < 4 := by omega
    have := congrArg (fun m : List UInt8 => m[i - l.length]?) e
    simp only [List.getElem?_set_self (show i - l.length < (be (sum l)).length by rw [be_length]; exact hj)] at this
    rw [List.getElem?_eq_getElem (by rw [be_length]; exact hj)] at this
    exact hc (Option.some.inj this).symm
theorem add_ne (a b : UInt8) (h : b.toNat ≠ 0) : a + b ≠ a := by
  intro e
  have := congrArg UInt8.toNat e
  rw [UInt8.toNat_add] at this
  have h1 := a.toNat_lt
  have h2 := b.toNat_lt
  omega
end Go.Proofs.YtgakbncglkegiaaDoor.C
