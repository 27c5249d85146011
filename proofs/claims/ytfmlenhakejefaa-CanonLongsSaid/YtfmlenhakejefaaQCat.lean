/-
  The library's Grow, Concat and Clone at nodes.
-/
import Derived.Test.YtfmlenhakejefaaQRow
import Derived.Lib.AppendZeros
import Derived.Lib.SliceRun
import Derived.Laws.MakeOwn
namespace Go.Proofs.Ytfmlenhakejefaa.Qs
set_option linter.unusedVariables false
open Go.RowKit V Go.Sort D Nd

abbrev E : TypeId := 38
theorem infoN : (Try.prog.info? 38).map (fun i => (i.zero, i.size, i.bytes)) = some (some zeroNv, 6, 48) := by kernel_rfl
theorem run_gr (n : Nat) (h0 : 0 < n) (h : n ≤ 2000000) (ty : TypeId) (w : World) :
    ∃ c w', (Builtin.append_ #[22, 3] ty #[.slice none 0 0, .int .i64 (n : Int)]).run Try.prog w = .ok (.slice (some ⟨w.heap.size, 0, none⟩) n c) w' ∧ n ≤ c ∧ ON w' w.heap.size E (.slice (some ⟨w.heap.size, 0, none⟩) 0 c) [] ∧ Below w.heap.size w w' := by
  obtain ⟨i, hi, hz0, hz1, hz2⟩ := G.info_of infoN
  have hr := Lib.run_append_nil_zeros (P := Try.prog) w 22 3 ty 38 i zeroNv .i64 .i64 Try.underlying22 Try.underlying3 hi hz0 n h0 (by rw [hz1]; omega) (by omega) (by rw [hz2]; omega)
  have hge := grownCap_ge w n 0 38
  have hle := grownCap_le_maxLen w n 0 38 (by unfold maxLen; omega)
  refine ⟨_, _, hr, hge, ?_, ((Below.refl _ _).drew).alloc (Nat.le_refl _) _⟩
  exact World.ownsRow_made (base := w.heap.size) (size := 6) (e := 38) w.drew _ (grownCap w n 0 38) (Nat.le_refl _) hle (by simp [Builtin.zeroCells, Value.cells]; omega)

/-- A row of two slices, in memory. -/
def Two (w : World) (g : Nat) (x y : Value) : Prop := w.cell? ⟨g, 0, none⟩ = some x ∧ w.cell? ⟨g, 1, none⟩ = some y

theorem nilN : ∀ (w : World) (a : Option Addr) (n c n' c' : Nat), (binOp .eql 22 (.slice a n c) (.slice none n' c')).run Try.prog w = .ok (.bool a.isNone) w := fun w a n c n' c' => Lib.run_eql_slice_nil w _ _ a n c n' c' Try.underlying22
end Go.Proofs.Ytfmlenhakejefaa.Qs
