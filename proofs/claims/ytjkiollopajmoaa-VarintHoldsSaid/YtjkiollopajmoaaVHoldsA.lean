/-
  What was written is read: the parts, and the numbers that were read written again.
-/
import Derived.Test.YtjkiollopajmoaaVWrites
import Derived.Test.YtjkiollopajmoaaVLawA
import Derived.Test.YtjkiollopajmoaaVNumbers
namespace Go.Proofs.Ytjkiollopajmoaa.V
set_option linter.unusedVariables false
open Go.RowKit

theorem cat_split (q : Nat → PartV) (k : Nat) : ∀ m, k ≤ m → ∃ t, cat q m = cat q k ++ t
  | 0, h => ⟨[], by obtain rfl : k = 0 := by omega
                    simp⟩
  | m + 1, h => by
    rcases Nat.lt_or_ge m k with h1 | h1
    · obtain rfl : k = m + 1 := by omega
      exact ⟨[], by simp⟩
    · obtain ⟨t, ht⟩ := cat_split q k m h1
      exact ⟨t ++ (q m).out, by rw [cat, ht, List.append_assoc]⟩

theorem cat_drop (q : Nat → PartV) (k len : Nat) (h : k < len) : ∃ t, (cat q len).drop (cat q k).length = (q k).out ++ t := by
  obtain ⟨t, ht⟩ := cat_split q (k + 1) len (by omega)
  exact ⟨t, by rw [ht, cat, List.append_assoc, List.drop_left]⟩

section
variable {w : World} {r : Nat} {L : List UInt8} {p : Nat} {t : List UInt8}
theorem part_reads (n : Nat) (hn : n < 18446744073709551616) (h : Rd w r ⟨L.toArray⟩ p) (hd : L.drop p = num n ++ t) :
    Calls Try.prog 16 #[.pointer (some ⟨r, 0, none⟩), .int .u64 (n : Int), .int .u64 (n : Int), .int .i64 0] w fun e w' =>
      e = .returned (.bool true) ∧ Rd w' r ⟨L.toArray⟩ (p + (num n).length) ∧ w.grownBy w' (some r) := by
  have hf := rn_fine (rd_written hn t) n rfl (by omega)
  rw [← hd] at hf
  have H := reads_no w r ⟨L.toArray⟩ p n (n : Int) (n : Int) 0 h rfl (by show _ = ((rn (L.drop p) n).1 : Int); rw [hf]) (by show _ = ((rn (L.drop p) n).2.2 : Int); rw [hf]; rfl)
  have hz : (rn ((⟨L.toArray⟩ : ByteArray).data.toList.drop p) n).2.1 = (num n).length := by show (rn (L.drop p) n).2.1 = _; rw [hf]
  rw [hz] at H
  exact H
theorem part_signed (s : Int) (hs : -9223372036854775808 ≤ s ∧ s ≤ 9223372036854775807) (h : Rd w r ⟨L.toArray⟩ p) (hd : L.drop p = num (zig s) ++ t) :
    Calls Try.prog 18 #[.pointer (some ⟨r, 0, none⟩), .int .i64 s, .int .i64 0] w fun e w' =>
      e = .returned (.bool true) ∧ Rd w' r ⟨L.toArray⟩ (p + (num (zig s)).length) ∧ w.grownBy w' (some r) := by
  have hz := zig_lt hs.1 hs.2
  have hf := rn_fine (rd_written hz t) 18446744073709551615 rfl (by omega)
  rw [← hd] at hf
  have H := signed_no w r ⟨L.toArray⟩ p s 0 h (by show _ = zag (rn (L.drop p) 18446744073709551615).1; rw [hf]; exact (zag_zig s).symm) (by show _ = ((rn (L.drop p) 18446744073709551615).2.2 : Int); rw [hf]; rfl)
  have hz : (rn ((⟨L.toArray⟩ : ByteArray).data.toList.drop p) 18446744073709551615).2.1 = (num (zig s)).length := by show (rn (L.drop p) _).2.1 = _; rw [hf]
  rw [hz] at H
  exact H
theorem part_hears (d : List UInt8) (hl : d.length ≤ 300) (h : Rd w r ⟨L.toArray⟩ p) (hd : L.drop p = num d.length ++ d ++ t) :
    Calls Try.prog 35 #[.pointer (some ⟨r, 0, none⟩), .int .i64 (d.length : Int), .string ⟨d.toArray⟩, .int .i64 0] w fun e w' =>
      e = .returned (.bool true) ∧ Rd w' r ⟨L.toArray⟩ (p + (num d.length ++ d).length) ∧ w.grownBy w' (some r) := by
  rw [List.append_assoc] at hd
  have hrd := rd_written (n := d.length) (by omega) (d ++ t)
  have hf := rs_fine hrd (d.length : Int) rfl (by omega) (by rw [List.length_append, List.length_append]; omega)
  rw [← hd] at hf
  have hv : ((L.drop p).drop (num d.length).length).take d.length = d := by rw [hd, List.drop_left, List.take_left]
  rw [hv] at hf
  have H := hears_no w r ⟨L.toArray⟩ p (d.length : Int) 0 ⟨d.toArray⟩ (by omega) (by omega) h (by show d = (rs (L.drop p) (d.length : Int)).1; rw [hf]) (by show _ = ((rs (L.drop p) (d.length : Int)).2.2 : Int); rw [hf]; rfl)
  have hz : (rs ((⟨L.toArray⟩ : ByteArray).data.toList.drop p) (d.length : Int)).2.1 = (num d.length ++ d).length := by show (rs (L.drop p) _).2.1 = _; rw [hf, List.length_append]
  rw [hz] at H
  exact H
theorem part_takes (d : List UInt8) (h : Rd w r ⟨L.toArray⟩ p) (hd : L.drop p = d ++ t) :
    Calls Try.prog 36 #[.pointer (some ⟨r, 0, none⟩), .int .i64 (d.length : Int), .string ⟨d.toArray⟩, .int .i64 0] w fun e w' =>
      e = .returned (.bool true) ∧ Rd w' r ⟨L.toArray⟩ (p + d.length) ∧ w.grownBy w' (some r) := by
  have hf : tk (L.drop p) (d.length : Int) = (d, d.length, 0) := by
    unfold tk
    rw [if_neg (by omega), if_neg (by rw [hd, List.length_append]; omega), hd, Int.toNat_natCast, List.take_left]
  have H := takes_no w r ⟨L.toArray⟩ p (d.length : Int) 0 ⟨d.toArray⟩ h (by show d = (tk (L.drop p) (d.length : Int)).1; rw [hf]) (by show _ = ((tk (L.drop p) (d.length : Int)).2.2 : Int); rw [hf]; rfl)
  have hz : (tk ((⟨L.toArray⟩ : ByteArray).data.toList.drop p) (d.length : Int)).2.1 = d.length := by show (tk (L.drop p) _).2.1 = _; rw [hf]
  rw [hz] at H
  exact H

/-- A number that is asked for without a bound: an error, and nothing was taken; or a number, whose bytes were taken. -/
theorem num_all (w : World) (r : Nat) (L : List UInt8) (p : Nat) (h : Rd w r ⟨L.toArray⟩ p) :
    Calls Try.prog 30 #[.pointer (some ⟨r, 0, none⟩), .int .u64 18446744073709551615] w fun e w' =>
      ∃ (n er : Nat), e = .returned (.tuple #[.int .u64 (n : Int), .int .i64 (er : Int)]) ∧ n < 18446744073709551616 ∧ w.grownBy w' (some r) ∧
        ((er ≠ 0 ∧ Rd w' r ⟨L.toArray⟩ p) ∨ (er = 0 ∧ Rd w' r ⟨L.toArray⟩ (p + (num n).length) ∧ L.take (p + (num n).length) = L.take p ++ num n)) := by
  have H := num_no w r ⟨L.toArray⟩ p 18446744073709551615 h
  rw [show ((18446744073709551615 : Nat) : Int) = 18446744073709551615 from rfl] at H
  refine H.mono fun e w' ⟨he, hR, hG⟩ => ⟨_, _, he, rn_lt _ _, hG, ?_⟩
  have hx : (⟨L.toArray⟩ : ByteArray).data.toList.drop p = L.drop p := rfl
  rw [hx] at hR ⊢
  obtain ⟨n, z, er, hd⟩ : ∃ n z er, rd (L.drop p) 0 0 = (n, z, er) := ⟨_, _, _, rfl⟩
  by_cases h0 : er = 0
  · subst h0
    have hl := rd_lt (L.drop p)
    have hk := rd_ok (l := L.drop p) (by rw [hd])
    rw [hd] at hl hk
    simp only at hl hk
    have hf := rn_fine hd 18446744073709551615 rfl (by omega)
    rw [hf] at hR ⊢
    obtain ⟨k1, k2, k3, k4⟩ := hk
    subst k2
    exact .inr ⟨rfl, hR, by rw [List.take_add, k4]⟩
  · have hf := rn_fail hd 18446744073709551615 h0
    rw [hf] at hR ⊢
    exact .inl ⟨h0, hR⟩
end

end Go.Proofs.Ytjkiollopajmoaa.V
