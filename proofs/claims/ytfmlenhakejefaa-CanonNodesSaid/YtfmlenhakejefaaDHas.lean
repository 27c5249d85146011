/-
  The library's Index and Contains, the program's Has; the library's Grow and Concat at dots.
-/
import Derived.Test.YtfmlenhakejefaaMDRefB
import Derived.Lib.AppendZeros
namespace Go.Proofs.Ytfmlenhakejefaa.D
set_option linter.unusedVariables false
open Go.RowKit V Go.Sort

theorem run_gr (n : Nat) (h0 : 0 < n) (h : n ≤ 2000000) (ty : TypeId) (w : World) :
    ∃ c w', (Builtin.append_ #[40, 3] ty #[.slice none 0 0, .int .i64 (n : Int)]).run Try.prog w = .ok (.slice (some ⟨w.heap.size, 0, none⟩) n c) w' ∧ n ≤ c ∧ OD w' w.heap.size E (.slice (some ⟨w.heap.size, 0, none⟩) 0 c) [] ∧ Below w.heap.size w w' := by
  obtain ⟨i, hi, hz0, hz1, hz2⟩ := G.info_of infoD
  have hr := Lib.run_append_nil_zeros (P := Try.prog) w 40 3 ty 36 i (.agg #[.int .i64 0, .int .i64 0]) .i64 .i64 Try.underlying40 Try.underlying3 hi hz0 n h0 (by rw [hz1]; omega) (by omega) (by rw [hz2]; omega)
  have hge := grownCap_ge w n 0 36
  have hle := grownCap_le_maxLen w n 0 36 (by unfold maxLen; omega)
  refine ⟨_, _, hr, hge, ?_, ((Below.refl _ _).drew).alloc (Nat.le_refl _) _⟩
  exact World.ownsRow_made (base := w.heap.size) (size := 2) (e := 36) w.drew _ (grownCap w n 0 36) (Nat.le_refl _) hle (by simp [Builtin.zeroCells, Value.cells]; omega)

/-- A row of two slices, in memory. -/
def Two (w : World) (g : Nat) (x y : Value) : Prop := w.cell? ⟨g, 0, none⟩ = some x ∧ w.cell? ⟨g, 1, none⟩ = some y

end Go.Proofs.Ytfmlenhakejefaa.D
