/-
  A dot in memory, '==' of dots, the library's cmp.Compare and cmp.Or at numbers.
-/
import Derived.Test.YtkbbbjcigjlopaaRows
import Derived.Test.YtkbbbjcigjlopaaGenD
import Derived.Test.YtkbbbjcigjlopaaSched
import Derived.Laws.StructEq
import Derived.Sort.Grow
namespace Go.Proofs.Ytkbbbjcigjlopaa.D
set_option linter.unusedVariables false
open Go.RowKit V

abbrev dv (x : Dt) : Value := .agg #[.int .i64 x.1, .int .i64 x.2]
theorem infoD : (Try.prog.info? 39).map (fun i => (i.zero, i.size, i.bytes)) = some (some (.agg #[.int .i64 0, .int .i64 0]), 2, 16) := by kernel_rfl

theorem eql_dot (x y : Dt) (w : World) : Sem.run Try.prog (binOp .eql 39 (dv x) (dv y)) w = .ok (.bool (decide (x = y))) w := by
  have u3 := Try.underlying3
  have a3 := Try.isAgg3
  have z3 := Try.sizeOf3
  have hS : Try.prog.underlying 39 = some (.struct (Try.prog.fieldsOf 39)) := by kernel_rfl
  have hp : Try.prog.stoodInHeld 39 = false := by kernel_rfl
  rw [run_eql_struct, show (10000 : Nat) = 9999 + 1 from rfl, run_equalIn_agg w 9999 39 _ _ hS hp]
  simp only [Program.fieldsOf, Try.underlying39]
  go_simp
  obtain ⟨x1, x2⟩ := x
  obtain ⟨y1, y2⟩ := y
  by_cases h1 : x1 = y1 <;> by_cases h2 : x2 = y2 <;> simp [h1, h2]
theorem neq_dot (x y : Dt) (w : World) : Sem.run Try.prog (binOp .neq 39 (dv x) (dv y)) w = .ok (.bool (!decide (x = y))) w := by
  have u3 := Try.underlying3
  have a3 := Try.isAgg3
  have z3 := Try.sizeOf3
  have hS : Try.prog.underlying 39 = some (.struct (Try.prog.fieldsOf 39)) := by kernel_rfl
  have hp : Try.prog.stoodInHeld 39 = false := by kernel_rfl
  rw [run_neq_struct, show (10000 : Nat) = 9999 + 1 from rfl, run_equalIn_agg w 9999 39 _ _ hS hp]
  simp only [Program.fieldsOf, Try.underlying39]
  go_simp
  obtain ⟨x1, x2⟩ := x
  obtain ⟨y1, y2⟩ := y
  by_cases h1 : x1 = y1 <;> by_cases h2 : x2 = y2 <;> simp [h1, h2]
def cmpI (x y : Int) : Int := if x < y then -1 else if y < x then 1 else 0

/-! ### Loads -/
theorem load_int {w : World} {b o : Nat} {z : Int} (h : w.cell? ⟨b, o, none⟩ = some (.int .i64 z)) : (Instr.loadAt 3 (.pointer (some ⟨b, o, none⟩))).run Try.prog w = .ok (.int .i64 z) w := by
  go_simp
theorem load_dot {w : World} {b o : Nat} {x : Dt} (h0 : w.cell? ⟨b, o, none⟩ = some (.int .i64 x.1)) (h1 : w.cell? ⟨b, o + 1, none⟩ = some (.int .i64 x.2)) : (Instr.loadAt 39 (.pointer (some ⟨b, o, none⟩))).run Try.prog w = .ok (dv x) w := by
  go_simp
theorem tree_load {P : Program} {Q : Exit → Act → World → Prop} {S : World → Prop} {l : List Oper} {i : Nat} {op : Oper} {r : Sch.Tr} {a : Act} {w : World} (t : TypeId) (x : Operand) (ad v : Value) (a' : Act)
    (ho : Sch.nth l i = some op) (hop : op.op = .load t x) (hw : Region.wanted op (yielded l.toArray a.tmps) = true) (hx : a.eval x = ad)
    (hr : ∀ w, S w → (Instr.loadAt t ad).run P w = .ok v w) (he : a.put op.dst v = a') (h : Sch.heldT P l.toArray Q S r a' w) : Sch.heldT P l.toArray Q S (.take i r) a w := by
  subst he
  subst hx
  refine Sch.tree_q ho hw fun K hK => ⟨v, fun w hS => ?_, hK _ h⟩
  unfold Oper.quietAt execOp
  rw [hop]
  simp only [Sem.run_bind, hr w hS, Result.andThen_ok]
  exact ⟨rfl, rfl⟩
/-- A world in which all that lay in another one lies as it did. -/
def Bel (w0 w : World) : Prop := Below w0.heap.size w0 w
end Go.Proofs.Ytkbbbjcigjlopaa.D
