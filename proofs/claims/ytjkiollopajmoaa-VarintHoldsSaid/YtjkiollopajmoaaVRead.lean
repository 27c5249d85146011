/-
  The readers of layer 1: what each method returns, and what it does to the reader.
-/
import Derived.Test.YtjkiollopajmoaaVWalkB
import Derived.Test.YtjkiollopajmoaaVMem
namespace Go.Proofs.Ytjkiollopajmoaa.V
set_option linter.unusedVariables false
open Go.RowKit

theorem ret2 {k1 k2 : IntKind} {a b a' b' : Int} (h1 : a = a') (h2 : b = b') :
    Ending.returned (.tuple #[.int k1 a, .int k2 b]) = .returned (.tuple #[.int k1 a', .int k2 b']) := by rw [h1, h2]

set_option maxHeartbeats 400000 in
theorem isZero_no (w : World) (r : Nat) (s : ByteArray) (p : Nat) (h : Rd w r s p) :
    Calls Try.prog 40 #[.pointer (some ⟨r, 0, none⟩)] w fun e w' => e = .returned (.bool false) ∧ w = w' := by
  have c2 := h.c2
  clear h
  go_enter Try.func40, Try.ntmps40
  go_wp2
  go_ret
  exact ⟨rfl, rfl⟩

set_option maxHeartbeats 400000 in
theorem isZero_yes (w : World) (a : Option Addr) (h : Zr w a) :
    Calls Try.prog 40 #[.pointer a] w fun e w' => e = .returned (.bool true) ∧ w = w' := by
  rcases h with rfl | ⟨r, T, s, p, rfl, h⟩
  · go_enter Try.func40, Try.ntmps40
    go_wp2
    go_ret
    exact ⟨rfl, rfl⟩
  · have c2 : w.cell? ⟨r, 2, none⟩ = some (.bool false) := by simp [World.cell?, h]
    clear h
    go_enter Try.func40, Try.ntmps40
    go_wp2
    go_ret
    exact ⟨rfl, rfl⟩

set_option maxHeartbeats 400000 in
theorem left_no (w : World) (r : Nat) (s : ByteArray) (p : Nat) (h : Rd w r s p) :
    Calls Try.prog 34 #[.pointer (some ⟨r, 0, none⟩)] w fun e w' => e = .returned (.int .i64 ((s.size - p : Nat) : Int)) ∧ ∃ n, w' = w.drewN n := by
  have c0 := h.c0
  have c1 := h.c1
  have hp := h.2.1
  have hs := h.2.2
  have H := Lib.hid h
  clear h
  go_enter Try.func34, Try.ntmps34
  go_wp2_with (go_at_call 40; refine (isZero_no _ r s p H.out).mono ?_; rintro e w' ⟨rfl, rfl⟩)
  go_quiet (fail)
  go_wp2
  go_ret
  exact ⟨ret_i (by omega), _, rfl⟩

set_option maxHeartbeats 400000 in
theorem left_yes (w : World) (a : Option Addr) (h : Zr w a) :
    Calls Try.prog 34 #[.pointer a] w fun e w' => e = .returned (.int .i64 0) ∧ w = w' := by
  have H := Lib.hid h
  clear h
  go_enter Try.func34, Try.ntmps34
  go_wp2_with (go_at_call 40; refine (isZero_yes _ a H.out).mono ?_; rintro e w' ⟨rfl, rfl⟩)
  go_ret
  exact ⟨rfl, rfl⟩

set_option maxHeartbeats 400000 in
theorem at_no (w : World) (r : Nat) (s : ByteArray) (p : Nat) (h : Rd w r s p) :
    Calls Try.prog 33 #[.pointer (some ⟨r, 0, none⟩)] w fun e w' => e = .returned (.int .i64 (p : Int)) ∧ w = w' := by
  have c1 := h.c1
  have H := Lib.hid h
  clear h
  go_enter Try.func33, Try.ntmps33
  go_wp2_with (go_at_call 40; refine (isZero_no _ r s p H.out).mono ?_; rintro e w' ⟨rfl, rfl⟩)
  go_ret
  exact ⟨rfl, rfl⟩

set_option maxHeartbeats 400000 in
theorem at_yes (w : World) (a : Option Addr) (h : Zr w a) :
    Calls Try.prog 33 #[.pointer a] w fun e w' => e = .returned (.int .i64 0) ∧ w = w' := by
  have H := Lib.hid h
  clear h
  go_enter Try.func33, Try.ntmps33
  go_wp2_with (go_at_call 40; refine (isZero_yes _ a H.out).mono ?_; rintro e w' ⟨rfl, rfl⟩)
  go_ret
  exact ⟨rfl, rfl⟩

set_option maxHeartbeats 400000 in
theorem end_no (w : World) (r : Nat) (s : ByteArray) (p : Nat) (h : Rd w r s p) :
    Calls Try.prog 17 #[.pointer (some ⟨r, 0, none⟩)] w fun e w' => e = .returned (.int .i64 (if p = s.size then 0 else 12)) ∧ ∃ n, w' = w.drewN n := by
  have hp := h.2.1
  have hs := h.2.2
  have H := Lib.hid h
  clear h
  by_cases he : p = s.size
  · rw [if_pos he]
    have h0 : ((s.size - p : Nat) : Int) = 0 := by omega
    have H0 := Lib.hid he
    clear he
    go_enter Try.func17, Try.ntmps17
    go_wp2_with (first | (go_at_call 40; refine (isZero_no _ r s p H.out).mono ?_; rintro e w' ⟨rfl, rfl⟩) | (go_at_call 34; refine (left_no _ r s p H.out).mono ?_; rintro e w' ⟨rfl, n, rfl⟩; rw [h0]))
    go_ret
    exact ⟨rfl, _, rfl⟩
  · rw [if_neg he]
    have h0 : (0 : Int) < ((s.size - p : Nat) : Int) := by omega
    obtain ⟨q, hq⟩ : ∃ q : Int, q = ((s.size - p : Nat) : Int) := ⟨_, rfl⟩
    rw [← hq] at h0
    have H0 := Lib.hid he
    have HQ := Lib.hid hq
    clear he hq
    go_enter Try.func17, Try.ntmps17
    go_wp2_with (first | (go_at_call 40; refine (isZero_no _ r s p H.out).mono ?_; rintro e w' ⟨rfl, rfl⟩) | (go_at_call 34; refine (left_no _ r s p H.out).mono ?_; rintro e w' ⟨rfl, n, rfl⟩; rw [← HQ.out]))
    go_ret
    exact ⟨rfl, _, rfl⟩

set_option maxHeartbeats 400000 in
theorem end_yes (w : World) (a : Option Addr) (h : Zr w a) :
    Calls Try.prog 17 #[.pointer a] w fun e w' => e = .returned (.int .i64 1) ∧ w = w' := by
  have H := Lib.hid h
  clear h
  go_enter Try.func17, Try.ntmps17
  go_wp2_with (go_at_call 40; refine (isZero_yes _ a H.out).mono ?_; rintro e w' ⟨rfl, rfl⟩)
  go_ret
  exact ⟨rfl, rfl⟩

end Go.Proofs.Ytjkiollopajmoaa.V
