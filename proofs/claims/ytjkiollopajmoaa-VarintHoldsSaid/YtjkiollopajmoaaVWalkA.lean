/-
  The small functions on numbers of layer 1: what each call returns, and that it leaves the world alone.
-/
import Derived.Test.YtjkiollopajmoaaRows
import Derived.Test.YtjkiollopajmoaaVPure
import Derived.Test.YtjkiollopajmoaaVBits
import Derived.WalkKit
import Derived.WalkSpells
import Derived.WalkLawsBesides
namespace Go.Proofs.Ytjkiollopajmoaa.V
set_option linter.unusedVariables false
open Go.RowKit

theorem ret_i {k : IntKind} {a b : Int} (h : a = b) : Ending.returned (.int k a) = .returned (.int k b) := by rw [h]

set_option maxHeartbeats 400000 in
theorem refZag_any (n : Nat) (w : World) (h : n < 18446744073709551616) :
    Calls Try.prog 13 #[.int .u64 n] w fun e w' => e = .returned (.int .i64 (zag n)) ∧ w = w' := by
  go_enter Try.func13, Try.ntmps13
  go_wp2
  · have h1 : ((n : Int) % 2 == 0) = true := by assumption
    go_ret
    rw [beq_iff_eq] at h1
    exact ⟨ret_i (by unfold zag; rw [if_pos (by omega)]; omega), rfl⟩
  · have h1 : ((n : Int) % 2 == 0) = false := by assumption
    go_ret
    rw [beq_eq_false_iff_ne] at h1
    exact ⟨ret_i (by unfold zag; rw [if_neg (by omega)]; omega), rfl⟩

set_option maxHeartbeats 400000 in
theorem zag_any (n : Nat) (w : World) (h : n < 18446744073709551616) :
    Calls Try.prog 12 #[.int .u64 n] w fun e w' => e = .returned (.int .i64 (zag n)) ∧ w = w' := by
  have e1 := and_one_u64 (n : Int) (by omega) (by omega)
  have e2 := not_i64 ((n : Int) / 2) (by omega) (by omega)
  go_enter Try.func12, Try.ntmps12
  go_wp2
  all_goals go_ret
  · have h1 : ((n : Int) % 2 != 0) = true := by assumption
    rw [bne_iff_ne] at h1
    exact ⟨ret_i (by unfold zag; rw [if_neg (by omega)]; omega), rfl⟩
  · have h1 : ((n : Int) % 2 != 0) = false := by assumption
    rw [bne_eq_false_iff_eq] at h1
    exact ⟨ret_i (by unfold zag; rw [if_pos (by omega)]; omega), rfl⟩

set_option maxHeartbeats 400000 in
theorem zig_any (n : Int) (w : World) (h : -9223372036854775808 ≤ n) (h' : n ≤ 9223372036854775807) :
    Calls Try.prog 14 #[.int .i64 n] w fun e w' => e = .returned (.int .u64 (zig n)) ∧ w = w' := by
  have e2 := not_i64 n (by omega) (by omega)
  by_cases hn : n < 0
  · obtain ⟨m, hm⟩ : ∃ m : Nat, (m : Int) = (-1 - n) * 2 := ⟨((-1 - n) * 2).toNat, by omega⟩
    have e3 := or_one m (by omega) (by omega)
    rw [hm] at e3
    clear hm
    have e4 : IntKind.u64.wrap (-1 - n) = -1 - n := by rw [IntKind.wrap_u64]; omega
    have e5 : IntKind.u64.wrap ((-1 - n) * 2) = (-1 - n) * 2 := by rw [IntKind.wrap_u64]; omega
    go_enter Try.func14, Try.ntmps14
    go_wp2
    go_ret
    exact ⟨ret_i (by unfold zig; rw [if_neg (by omega)]; omega), rfl⟩
  · go_enter Try.func14, Try.ntmps14
    go_wp2
    go_ret
    exact ⟨ret_i (by unfold zig; rw [if_pos (by omega)]; omega), rfl⟩

set_option maxHeartbeats 400000 in
theorem refZig_any (n : Int) (w : World) (h : -9223372036854775808 ≤ n) (h' : n ≤ 9223372036854775807) :
    Calls Try.prog 28 #[.int .i64 n] w fun e w' => e = .returned (.int .u64 (zig n)) ∧ w = w' := by
  go_enter Try.func28, Try.ntmps28
  go_wp2
  all_goals go_ret
  all_goals first | exact ⟨ret_i (by unfold zig; rw [if_pos (by omega)]; omega), rfl⟩ | exact ⟨ret_i (by unfold zig; rw [if_neg (by omega)]; omega), rfl⟩

end Go.Proofs.Ytjkiollopajmoaa.V
