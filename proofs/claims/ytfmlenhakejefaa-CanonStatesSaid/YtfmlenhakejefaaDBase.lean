/-
  A dot in memory, '==' of dots, the library's cmp.Compare and cmp.Or at numbers.
-/
import Derived.Test.YtfmlenhakejefaaRows
import Derived.Test.YtfmlenhakejefaaMGen
import Derived.Test.YtfmlenhakejefaaMSched
import Derived.Laws.StructEq
import Derived.Sort.Grow
namespace Go.Proofs.Ytfmlenhakejefaa.D
set_option linter.unusedVariables false
open Go.RowKit V

abbrev dv (x : Dt) : Value := .agg #[.int .i64 x.1, .int .i64 x.2]
theorem infoD : (Try.prog.info? 36).map (fun i => (i.zero, i.size, i.bytes)) = some (some (.agg #[.int .i64 0, .int .i64 0]), 2, 16) := by kernel_rfl

theorem eql_dot (x y : Dt) (w : World) : Sem.run Try.prog (binOp .eql 36 (dv x) (dv y)) w = .ok (.bool (decide (x = y))) w := by
  have u3 := Try.underlying3
  have a3 := Try.isAgg3
  have z3 := Try.sizeOf3
  have hS : Try.prog.underlying 36 = some (.struct (Try.prog.fieldsOf 36)) := by kernel_rfl
  have hp : Try.prog.stoodInHeld 36 = false := by kernel_rfl
  rw [run_eql_struct, show (10000 : Nat) = 9999 + 1 from rfl, run_equalIn_agg w 9999 36 _ _ hS hp]
  simp only [Program.fieldsOf, Try.underlying36]
  go_simp
  obtain ⟨x1, x2⟩ := x
  obtain ⟨y1, y2⟩ := y
  by_cases h1 : x1 = y1 <;> by_cases h2 : x2 = y2 <;> simp [h1, h2]
theorem neq_dot (x y : Dt) (w : World) : Sem.run Try.prog (binOp .neq 36 (dv x) (dv y)) w = .ok (.bool (!decide (x = y))) w := by
  have u3 := Try.underlying3
  have a3 := Try.isAgg3
  have z3 := Try.sizeOf3
  have hS : Try.prog.underlying 36 = some (.struct (Try.prog.fieldsOf 36)) := by kernel_rfl
  have hp : Try.prog.stoodInHeld 36 = false := by kernel_rfl
  rw [run_neq_struct, show (10000 : Nat) = 9999 + 1 from rfl, run_equalIn_agg w 9999 36 _ _ hS hp]
  simp only [Program.fieldsOf, Try.underlying36]
  go_simp
  obtain ⟨x1, x2⟩ := x
  obtain ⟨y1, y2⟩ := y
  by_cases h1 : x1 = y1 <;> by_cases h2 : x2 = y2 <;> simp [h1, h2]
def cmpI (x y : Int) : Int := if x < y then -1 else if y < x then 1 else 0

set_option maxRecDepth 100000 in
theorem cmp_int (x y : Int) (w : World) : Calls Try.prog 70 #[.int .i64 x, .int .i64 y] w fun e w' => e = .returned (.int .i64 (cmpI x y)) ∧ w' = w := by
  have hn : ∀ (z : Int) (w : World), Calls Try.prog 71 #[.int .i64 z] w fun e w' => e = .returned (.bool false) ∧ w' = w := by
    intro z w
    go_enter Try.func71, Try.ntmps71
    go_wp2_with fail
    go_ret
    simp
  unfold cmpI
  rcases Int.lt_trichotomy x y with h | h | h
  · rw [if_pos h]
    go_enter Try.func70, Try.ntmps70
    go_wp2_with (go_at_call 71; refine (hn _ _).mono ?_; rintro e w' ⟨rfl, rfl⟩)
    go_ret
    simp
  · rw [if_neg (by omega), if_neg (by omega)]
    have h1 : ¬ x < y := by omega
    have h2 : ¬ y < x := by omega
    clear h
    go_enter Try.func70, Try.ntmps70
    go_wp2_with (go_at_call 71; refine (hn _ _).mono ?_; rintro e w' ⟨rfl, rfl⟩)
    go_ret
    simp
  · rw [if_neg (by omega), if_pos h]
    have h1 : ¬ x < y := by omega
    go_enter Try.func70, Try.ntmps70
    go_wp2_with (go_at_call 71; refine (hn _ _).mono ?_; rintro e w' ⟨rfl, rfl⟩)
    go_ret
    simp

set_option maxRecDepth 100000 in
theorem or_int (p q : Int) (g : Nat) (w : World) (h0 : w.cell? ⟨g, 0, none⟩ = some (.int .i64 p)) (h1 : w.cell? ⟨g, 1, none⟩ = some (.int .i64 q)) :
    Calls Try.prog 69 #[.slice (some ⟨g, 0, none⟩) 2 2] w fun e w' => e = .returned (.int .i64 (if p = 0 then q else p)) ∧ w' = w := by
  by_cases hp : p = 0
  · rw [if_pos hp]
    subst hp
    by_cases hq : q = 0
    · subst hq
      go_enter Try.func69, Try.ntmps69
      go_wp2_with fail
      refine wp_loop_rounds 3 ?_
      rw [rounds_succ]
      go_wp2_with fail
      rw [rounds_succ]
      go_wp2_with fail
      rw [rounds_succ]
      go_wp2_with fail
      go_ret
      simp
    · have hq' : decide (q = 0) = false := by simpa using hq
      go_enter Try.func69, Try.ntmps69
      go_wp2_with fail
      refine wp_loop_rounds 3 ?_
      rw [rounds_succ]
      go_wp2_with fail
      rw [rounds_succ]
      go_wp2_with fail
      go_ret
      simp
  · rw [if_neg hp]
    go_enter Try.func69, Try.ntmps69
    go_wp2_with fail
    refine wp_loop_rounds 3 ?_
    rw [rounds_succ]
    go_wp2_with fail
    go_ret
    simp

/-! ### Loads -/
theorem load_int {w : World} {b o : Nat} {z : Int} (h : w.cell? ⟨b, o, none⟩ = some (.int .i64 z)) : (Instr.loadAt 3 (.pointer (some ⟨b, o, none⟩))).run Try.prog w = .ok (.int .i64 z) w := by
  go_simp
theorem load_dot {w : World} {b o : Nat} {x : Dt} (h0 : w.cell? ⟨b, o, none⟩ = some (.int .i64 x.1)) (h1 : w.cell? ⟨b, o + 1, none⟩ = some (.int .i64 x.2)) : (Instr.loadAt 36 (.pointer (some ⟨b, o, none⟩))).run Try.prog w = .ok (dv x) w := by
  go_simp
theorem tree_load {P : Program} {Q : Exit → Act → World → Prop} {S : World → Prop} {l : List Oper} {i : Nat} {op : Oper} {r : Sch.Tr} {a : Act} {w : World} (t : TypeId) (x : Operand) (ad v : Value) (a' : Act)
    (ho : Sch.nth l i = some op) (hop : op.op = .load t x) (hw : Region.wanted op (yielded l.toArray a.tmps) = true) (hx : a.eval x = ad)
    (hr : ∀ w, S w → (Instr.loadAt t ad).run P w = .ok v w) (he : a.put op.dst v = a') (h : Sch.heldT P l.toArray Q S r a' w) : Sch.heldT P l.toArray Q S (.take i r) a w := by
  subst he
  subst hx
  refine Sch.tree_q ho hw fun K hK => ⟨v, fun w hS => ?_, hK _ h⟩
  unfold Oper.quietAt execOp
  rw [hop]
  simp only [Sem.run_bind, hr w hS, Result.andThen_ok]
  exact ⟨rfl, rfl⟩
/-- A world in which all that lay in another one lies as it did. -/
def Bel (w0 w : World) : Prop := Below w0.heap.size w0 w
end Go.Proofs.Ytfmlenhakejefaa.D
