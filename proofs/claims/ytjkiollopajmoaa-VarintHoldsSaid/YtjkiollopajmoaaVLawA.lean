/-
  The statements' own helpers round a reader: each returns true where the results are those of the plain functions.
-/
import Derived.Test.YtjkiollopajmoaaVReadC
namespace Go.Proofs.Ytjkiollopajmoaa.V
set_option linter.unusedVariables false
open Go.RowKit

set_option maxHeartbeats 400000 in
theorem reads_no (w : World) (r : Nat) (s : ByteArray) (p m : Nat) (most want no : Int) (h : Rd w r s p) (hm : most = (m : Int))
    (hw : want = ((rn (s.data.toList.drop p) m).1 : Int)) (hn : no = ((rn (s.data.toList.drop p) m).2.2 : Int)) :
    Calls Try.prog 16 #[.pointer (some ⟨r, 0, none⟩), .int .u64 most, .int .u64 want, .int .i64 no] w fun e w' =>
      e = .returned (.bool true) ∧ Rd w' r s (p + (rn (s.data.toList.drop p) m).2.1) ∧ w.grownBy w' (some r) := by
  have HC := Lib.hid (num_no w r s p m h)
  clear h
  rw [← hm, ← hw, ← hn] at HC
  generalize (rn (s.data.toList.drop p) m).2.1 = z at *
  clear hm hw hn
  have e1 : (want == want) = true := by simp
  have e2 : (no == no) = true := by simp
  go_enter Try.func16, Try.ntmps16
  go_wp2_with (go_at_call 30; refine HC.out.mono ?_; rintro e w' ⟨rfl, hR, hG⟩)
  go_ret
  exact ⟨rfl, hR, hG⟩

set_option maxHeartbeats 400000 in
theorem reads_yes (w : World) (a : Option Addr) (most : Int) (h : Zr w a) :
    Calls Try.prog 16 #[.pointer a, .int .u64 most, .int .u64 0, .int .i64 1] w fun e w' => e = .returned (.bool true) ∧ w = w' := by
  have HC := Lib.hid (num_yes w a most h)
  clear h
  go_enter Try.func16, Try.ntmps16
  go_wp2_with (go_at_call 30; refine HC.out.mono ?_; rintro e w' ⟨rfl, rfl⟩)
  go_ret
  exact ⟨rfl, rfl⟩

set_option maxHeartbeats 400000 in
theorem signed_no (w : World) (r : Nat) (s : ByteArray) (p : Nat) (want no : Int) (h : Rd w r s p)
    (hw : want = zag (rn (s.data.toList.drop p) 18446744073709551615).1) (hn : no = ((rn (s.data.toList.drop p) 18446744073709551615).2.2 : Int)) :
    Calls Try.prog 18 #[.pointer (some ⟨r, 0, none⟩), .int .i64 want, .int .i64 no] w fun e w' =>
      e = .returned (.bool true) ∧ Rd w' r s (p + (rn (s.data.toList.drop p) 18446744073709551615).2.1) ∧ w.grownBy w' (some r) := by
  have HC := Lib.hid (int_no w r s p h)
  clear h
  rw [← hw, ← hn] at HC
  generalize (rn (s.data.toList.drop p) 18446744073709551615).2.1 = z at *
  clear hw hn
  have e1 : (want == want) = true := by simp
  have e2 : (no == no) = true := by simp
  go_enter Try.func18, Try.ntmps18
  go_wp2_with (go_at_call 41; refine HC.out.mono ?_; rintro e w' ⟨rfl, hR, hG⟩)
  go_ret
  exact ⟨rfl, hR, hG⟩

set_option maxHeartbeats 400000 in
theorem signed_yes (w : World) (a : Option Addr) (h : Zr w a) :
    Calls Try.prog 18 #[.pointer a, .int .i64 0, .int .i64 1] w fun e w' => e = .returned (.bool true) ∧ w = w' := by
  have HC := Lib.hid (int_yes w a h)
  clear h
  go_enter Try.func18, Try.ntmps18
  go_wp2_with (go_at_call 41; refine HC.out.mono ?_; rintro e w' ⟨rfl, rfl⟩)
  go_ret
  exact ⟨rfl, rfl⟩

set_option maxHeartbeats 400000 in
theorem hears_no (w : World) (r : Nat) (s : ByteArray) (p : Nat) (most no : Int) (want : ByteArray) (hm1 : -9223372036854775808 ≤ most) (hm2 : most ≤ 9223372036854775807) (h : Rd w r s p)
    (hw : want.data.toList = (rs (s.data.toList.drop p) most).1) (hn : no = ((rs (s.data.toList.drop p) most).2.2 : Int)) :
    Calls Try.prog 35 #[.pointer (some ⟨r, 0, none⟩), .int .i64 most, .string want, .int .i64 no] w fun e w' =>
      e = .returned (.bool true) ∧ Rd w' r s (p + (rs (s.data.toList.drop p) most).2.1) ∧ w.grownBy w' (some r) := by
  have HC := Lib.hid (bytes_no w r s p most hm1 hm2 h)
  clear h
  rw [← hw, ← hn] at HC
  generalize (rs (s.data.toList.drop p) most).2.1 = z at *
  clear hw hn
  have e1 : (want.toList == want.toList) = true := by simp
  have e2 : (no == no) = true := by simp
  go_enter Try.func35, Try.ntmps35
  go_wp2_with fail
  refine HC.out.mono ?_
  rintro e w' ⟨a, c, rfl, hrow, _, hR, hG⟩
  have hcv := conv_str (P := Try.prog) hrow c 23 9 5 Try.underlying23 Try.underlying5 Try.underlying9
  have HR := Lib.hid hR
  have HG := Lib.hid hG
  clear hrow hR hG
  go_wp2
  go_ret
  exact ⟨rfl, HR.out, HG.out⟩

set_option maxHeartbeats 400000 in
theorem hears_yes (w : World) (a : Option Addr) (most : Int) (h : Zr w a) :
    Calls Try.prog 35 #[.pointer a, .int .i64 most, .string ⟨#[]⟩, .int .i64 1] w fun e w' => e = .returned (.bool true) ∧ w = w' := by
  have HC := Lib.hid (bytes_yes w a most h)
  have hcv := run_convert_bytes_nil (P := Try.prog) w 23 5 Try.underlying23 Try.underlying5 0 0 9 Try.underlying9
  clear h
  go_enter Try.func35, Try.ntmps35
  go_wp2_with (go_at_call 49; refine HC.out.mono ?_; rintro e w' ⟨rfl, rfl⟩)
  go_ret
  exact ⟨rfl, rfl⟩

/-- What taking some bytes gives: too few, too many, or as many as there are. -/
def tk (l : List UInt8) (n : Int) : List UInt8 × Nat × Nat := if n < 0 then ([], 0, 2) else if (l.length : Int) < n then ([], 0, 4) else (l.take n.toNat, n.toNat, 0)

theorem raw_no (w : World) (r : Nat) (s : ByteArray) (p : Nat) (n : Int) (h : Rd w r s p) :
    Calls Try.prog 31 #[.pointer (some ⟨r, 0, none⟩), .int .i64 n] w fun e w' =>
      ∃ a c, e = .returned (.tuple #[.slice a (tk (s.data.toList.drop p) n).1.length c, .int .i64 (tk (s.data.toList.drop p) n).2.2]) ∧ Row8 w' a (tk (s.data.toList.drop p) n).1 ∧
        Rd w' r s (p + (tk (s.data.toList.drop p) n).2.1) ∧ w.grownBy w' (some r) := by
  have hp := h.2.1
  have hl : (s.data.toList.drop p).length = s.size - p := by rw [List.length_drop]; simp
  unfold tk
  rw [hl]
  by_cases h1 : n < 0
  · rw [if_pos h1]
    exact (raw_neg w r s p n h h1).mono fun e w' ⟨he, hw⟩ => by subst he; subst hw; exact ⟨none, 0, rfl, .inl rfl, h, gb_refl _ _⟩
  · rw [if_neg h1]
    by_cases h2 : ((s.size - p : Nat) : Int) < n
    · rw [if_pos h2]
      exact (raw_short w r s p n h h2).mono fun e w' ⟨he, q, hw⟩ => by subst he; subst hw; exact ⟨none, 0, rfl, .inl rfl, h.drewN _, gb_drewN _ _ _⟩
    · rw [if_neg h2]
      obtain ⟨m, rfl⟩ := Int.eq_ofNat_of_zero_le (show 0 ≤ n by omega)
      have hle : ((s.data.toList.drop p).take m).length = m := by rw [List.length_take, hl]; omega
      refine (raw_ok w r s p m h (by omega)).mono fun e w' ⟨c, he, hrow, hR, hG⟩ => ?_
      subst he
      simp only [Int.toNat_natCast]
      rw [hle]
      exact ⟨_, _, rfl, hrow, hR, hG⟩

set_option maxHeartbeats 400000 in
theorem takes_no (w : World) (r : Nat) (s : ByteArray) (p : Nat) (n no : Int) (want : ByteArray) (h : Rd w r s p)
    (hw : want.data.toList = (tk (s.data.toList.drop p) n).1) (hn : no = ((tk (s.data.toList.drop p) n).2.2 : Int)) :
    Calls Try.prog 36 #[.pointer (some ⟨r, 0, none⟩), .int .i64 n, .string want, .int .i64 no] w fun e w' =>
      e = .returned (.bool true) ∧ Rd w' r s (p + (tk (s.data.toList.drop p) n).2.1) ∧ w.grownBy w' (some r) := by
  have HC := Lib.hid (raw_no w r s p n h)
  clear h
  rw [← hw, ← hn] at HC
  generalize (tk (s.data.toList.drop p) n).2.1 = z at *
  clear hw hn
  have e1 : (want.toList == want.toList) = true := by simp
  have e2 : (no == no) = true := by simp
  go_enter Try.func36, Try.ntmps36
  go_wp2_with fail
  refine HC.out.mono ?_
  rintro e w' ⟨a, c, rfl, hrow, hR, hG⟩
  have hcv := conv_str (P := Try.prog) hrow c 23 9 5 Try.underlying23 Try.underlying5 Try.underlying9
  have HR := Lib.hid hR
  have HG := Lib.hid hG
  clear hrow hR hG
  go_wp2
  go_ret
  exact ⟨rfl, HR.out, HG.out⟩

set_option maxHeartbeats 400000 in
theorem takes_yes (w : World) (a : Option Addr) (n : Int) (h : Zr w a) :
    Calls Try.prog 36 #[.pointer a, .int .i64 n, .string ⟨#[]⟩, .int .i64 1] w fun e w' => e = .returned (.bool true) ∧ w = w' := by
  have HC := Lib.hid (raw_yes w a n h)
  have hcv := run_convert_bytes_nil (P := Try.prog) w 23 5 Try.underlying23 Try.underlying5 0 0 9 Try.underlying9
  clear h
  go_enter Try.func36, Try.ntmps36
  go_wp2_with (go_at_call 31; refine HC.out.mono ?_; rintro e w' ⟨rfl, rfl⟩)
  go_ret
  exact ⟨rfl, rfl⟩

set_option maxHeartbeats 400000 in
theorem first_any (w : World) (no : Int) (a : Option Addr) (l : List UInt8) (c : Nat) (hl : l.length ≤ 9223372036854775807) (h : Row8 w a l)
    (hr : (rn l 18446744073709551615).1 = 0 ∧ (rn l 18446744073709551615).2.1 = 0) (hn : no = ((rn l 18446744073709551615).2.2 : Int)) :
    Calls Try.prog 19 #[.int .i64 no, .slice a l.length c] w fun e w' => e = .returned (.bool true) ∧ Below w.heap.size w w' := by
  have HN := Lib.hid (new_any w a l c hl h)
  clear h
  go_enter Try.func19, Try.ntmps19
  go_wp2_with fail
  refine HN.out.mono ?_
  rintro e w' ⟨rfl, hR, hB⟩
  have hm1 : (18446744073709551615 : Int) = ((18446744073709551615 : Nat) : Int) := rfl
  have HQ := Lib.hid (reads_no w' w.heap.size ⟨l.toArray⟩ 0 18446744073709551615 18446744073709551615 0 no hR hm1 (by show _ = ((rn l _).1 : Int); rw [hr.1]; rfl) hn)
  have HB := Lib.hid hB
  have hz : 0 + (rn ((⟨l.toArray⟩ : ByteArray).data.toList.drop 0) 18446744073709551615).2.1 = 0 := by show 0 + (rn l _).2.1 = 0; rw [hr.2]
  rw [hz] at HQ
  clear hR hB hm1 hr hn hz
  go_wp2_with fail
  refine HQ.out.mono ?_
  rintro e w2 ⟨rfl, hR2, hG2⟩
  have HA := Lib.hid (at_no w2 _ _ 0 hR2)
  have HG2 := Lib.hid hG2
  clear hR2 hG2
  go_wp2_with fail
  refine HA.out.mono ?_
  rintro e w3 ⟨rfl, rfl⟩
  go_wp2_with fail
  go_ret
  exact ⟨rfl, below_gb HB.out HG2.out HB.out.size (Nat.le_refl _)⟩

end Go.Proofs.Ytjkiollopajmoaa.V
