/-
  IsSet: the reference's and the program's.
-/
import Derived.Test.YtmmcnpcijeahcabGreatDoorDRefA
import Derived.Shelf.SlSortCmp.QuietGrown
namespace Go.Proofs.YtmmcnpcijeahcabGreatDoor.D
set_option linter.unusedVariables false
open Go.RowKit V Go.Sort

theorem mixed : Tryz.prog.follows .mixedOrders = true := by kernel_rfl
theorem wrap_nat {k : Nat} (h : (k : Int) ≤ 140737488355328) : IntKind.i64.wrap (k : Int) = k := by simp [IntKind.wrap, IntKind.bits, IntKind.signed]; omega
/-- A cell, in every world that lays and draws. -/
theorem cellG {w : World} {a : Addr} {v : Value} (h : w.cell? a = some v) : ∀ n os, (grow (w.drewN n) os).cell? a = some v := fun n os => cell_grown (lt_of_cell h) h n os
theorem lessG (x y : Dt) (W : World) (n : Nat) (os : Array Obj) : Calls Tryz.prog 34 #[dv x, dv y] (grow (W.drewN n) os) fun e w'' => e = .returned (.bool (less x y)) ∧ ∃ p : GrownBy, w'' = grow (W.drewN p.n) p.os :=
  Calls.grown_of (less_ref x y _)
theorem cmpG (x y : Dt) (W : World) (n : Nat) (os : Array Obj) : Calls Tryz.prog 33 #[dv x, dv y] (grow (W.drewN n) os) fun e w'' => e = .returned (.int .i64 (cmpR x y)) ∧ ∃ p : GrownBy, w'' = grow (W.drewN p.n) p.os :=
  Calls.grown_of (compare_any x y _)
theorem bel_grown {B : Nat} {w w' : World} (h : Below B w w') (hB : B ≤ w'.heap.size) (n : Nat) (os : Array Obj) : Below B w (grow (w'.drewN n) os) := bel_grow (bel_drewN h n) hB os

theorem cmp_neg_lt {p q : Dt} (h : less p q = true) : ¬ (0 : Int) ≤ cmpR p q := by have := cmp_neg.2 h; omega
theorem cmp_neg_ge {p q : Dt} (h : less p q = false) : (0 : Int) ≤ cmpR p q := by
  rcases Int.lt_or_le (cmpR p q) 0 with k | k
  · rw [cmp_neg, h] at k; cases k
  · exact k
end Go.Proofs.YtmmcnpcijeahcabGreatDoor.D
