/-
  A node in memory; '==' of nodes; which nodes are valid, dead, what is killed.
-/
import Derived.Test.YtfmlenhakejefaaMNPure
import Derived.Test.YtfmlenhakejefaaDVal
import Derived.Test.YtfmlenhakejefaaMDRefB
import Derived.Test.YtfmlenhakejefaaMSched
namespace Go.Proofs.Ytfmlenhakejefaa.Nd
set_option linter.unusedVariables false
open Go.RowKit V Go.Sort D

abbrev nc (n : Nt) : Array Value := #[.int .i64 n.1.1, .int .i64 n.1.2, .int .i64 n.2.1.1, .int .i64 n.2.1.2, .int .i64 n.2.2.1, .int .i32 n.2.2.2]
abbrev nv (n : Nt) : Value := .agg (nc n)
/-- A box with a node. -/
def Nb (w : World) (g : Nat) (n : Nt) : Prop :=
  w.cell? ⟨g, 0, none⟩ = some (.int .i64 n.1.1) ∧ w.cell? ⟨g, 1, none⟩ = some (.int .i64 n.1.2) ∧ w.cell? ⟨g, 2, none⟩ = some (.int .i64 n.2.1.1) ∧ w.cell? ⟨g, 3, none⟩ = some (.int .i64 n.2.1.2) ∧
  w.cell? ⟨g, 4, none⟩ = some (.int .i64 n.2.2.1) ∧ w.cell? ⟨g, 5, none⟩ = some (.int .i32 n.2.2.2)
theorem Nb.lt {w : World} {g : Nat} {n : Nt} (h : Nb w g n) : g < w.heap.size := lt_of_cell h.1
theorem Nb.keep {w w' : World} {g : Nat} {n : Nt} (h : Nb w g n) (hb : Below w.heap.size w w') : Nb w' g n := by
  have hl := h.lt
  obtain ⟨h0, h1, h2, h3, h4, h5⟩ := h
  exact ⟨(hb.cell (p := ⟨g, 0, none⟩) hl).trans h0, (hb.cell (p := ⟨g, 1, none⟩) hl).trans h1, (hb.cell (p := ⟨g, 2, none⟩) hl).trans h2, (hb.cell (p := ⟨g, 3, none⟩) hl).trans h3, (hb.cell (p := ⟨g, 4, none⟩) hl).trans h4, (hb.cell (p := ⟨g, 5, none⟩) hl).trans h5⟩
theorem Nb.new (w : World) (n : Nt) : Nb (w.alloc (.cells (nc n) 38)) w.heap.size n := by
  refine ⟨?_, ?_, ?_, ?_, ?_, ?_⟩ <;> go_simp
theorem Nb.load {w : World} {g : Nat} {n : Nt} (h : Nb w g n) : (Instr.loadAt 38 (.pointer (some ⟨g, 0, none⟩))).run Try.prog w = .ok (nv n) w := by
  obtain ⟨h0, h1, h2, h3, h4, h5⟩ := h
  go_simp
theorem Nb.loadD {w : World} {g : Nat} {n : Nt} (h : Nb w g n) : (Instr.loadAt 36 (.pointer (some ⟨g, 0, none⟩))).run Try.prog w = .ok (dv n.1) w := by
  obtain ⟨h0, h1, h2, h3, h4, h5⟩ := h
  go_simp
theorem Nb.loadP {w : World} {g : Nat} {n : Nt} (h : Nb w g n) : (Instr.loadAt 36 (.pointer (some ⟨g, 2, none⟩))).run Try.prog w = .ok (dv n.2.1) w := by
  obtain ⟨h0, h1, h2, h3, h4, h5⟩ := h
  go_simp
theorem Nb.loadT {w : World} {g : Nat} {n : Nt} (h : Nb w g n) : (Instr.loadAt 3 (.pointer (some ⟨g, 4, none⟩))).run Try.prog w = .ok (.int .i64 n.2.2.1) w := by
  obtain ⟨h0, h1, h2, h3, h4, h5⟩ := h
  go_simp
theorem Nb.loadR {w : World} {g : Nat} {n : Nt} (h : Nb w g n) : (Instr.loadAt 21 (.pointer (some ⟨g, 5, none⟩))).run Try.prog w = .ok (.int .i32 n.2.2.2) w := by
  obtain ⟨h0, h1, h2, h3, h4, h5⟩ := h
  go_simp
theorem fieldsN : (Try.prog.underlying 38) = some (.struct (Try.prog.fieldsOf 38)) := by kernel_rfl
theorem dotS : Try.prog.underlying 36 = some (.struct (Try.prog.fieldsOf 36)) := by kernel_rfl
theorem eq_in_dot (x y : Dt) (w : World) : (Op.equalIn 9999 36 (.agg #[.int .i64 x.1, .int .i64 x.2]) (.agg #[.int .i64 y.1, .int .i64 y.2])).run Try.prog w = .ok (decide (x = y)) w := by
  have u3 := Try.underlying3
  have a3 := Try.isAgg3
  have z3 := Try.sizeOf3
  rw [show (9999 : Nat) = 9998 + 1 from rfl, run_equalIn_agg w 9998 36 _ _ dotS (by kernel_rfl)]
  simp only [Program.fieldsOf, Try.underlying36]
  go_simp
  obtain ⟨x1, x2⟩ := x
  obtain ⟨y1, y2⟩ := y
  by_cases h1 : x1 = y1 <;> by_cases h2 : x2 = y2 <;> simp [h1, h2]
theorem eq_node (x y : Nt) (w : World) : (Op.equalIn 10000 38 (nv x) (nv y)).run Try.prog w = .ok (decide (x = y)) w := by
  have u3 := Try.underlying3
  have a3 := Try.isAgg3
  have z3 := Try.sizeOf3
  have u4 := Try.underlying21
  have a4 := Try.isAgg21
  have z4 := Try.sizeOf21
  have uD := Try.isAgg36
  have zD := Try.sizeOf36
  have e1 := eq_in_dot x.1 y.1
  have e2 := eq_in_dot x.2.1 y.2.1
  rw [show (10000 : Nat) = 9999 + 1 from rfl, run_equalIn_agg w 9999 38 _ _ fieldsN (by kernel_rfl)]
  simp only [Program.fieldsOf, Try.underlying38]
  go_simp
  obtain ⟨x1, x2, x3, x4⟩ := x
  obtain ⟨y1, y2, y3, y4⟩ := y
  by_cases h1 : x1 = y1 <;> by_cases h2 : x2 = y2 <;> by_cases h3 : x3 = y3 <;> by_cases h4 : x4 = y4 <;> simp [h1, h2, h3, h4]
theorem eql_node (x y : Nt) (w : World) : Sem.run Try.prog (binOp .eql 38 (nv x) (nv y)) w = .ok (.bool (decide (x = y))) w := by
  rw [run_eql_struct, eq_node]
  rfl
theorem neq_node (x y : Nt) (w : World) : Sem.run Try.prog (binOp .neq 38 (nv x) (nv y)) w = .ok (.bool (!decide (x = y))) w := by
  rw [run_neq_struct, eq_node]
  rfl
end Go.Proofs.Ytfmlenhakejefaa.Nd
