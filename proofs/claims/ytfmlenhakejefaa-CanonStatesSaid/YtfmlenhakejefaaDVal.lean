/-
  Which dots are valid, which is the root: the program's and the reference's.
-/
import Derived.Test.YtfmlenhakejefaaMDCmp
import Derived.Test.YtfmlenhakejefaaMDText
import Derived.Laws.ResultCell
namespace Go.Proofs.Ytfmlenhakejefaa.D
set_option linter.unusedVariables false
open Go.RowKit V Go.Sort

theorem results_cell1 {P : Program} {fn : Func} {p : Tmp} {ty : TypeId} (h : fn.results = #[.cell p ty]) (tmps : Array Value) (w : World) :
    (results fn tmps).run P w = ((asAddr (tmps.getD p undef)).run P w).andThen fun a w₁ => (loadVar ty a).run P w₁ := by
  simp only [results, h]
  simp [Sem.run_bind, Result.andThen]
theorem bel_box (w : World) (o : Obj) : Below w.heap.size w (w.alloc o) := (Below.refl _ _).alloc (Nat.le_refl _) _

set_option maxRecDepth 100000 in
set_option maxHeartbeats 1000000 in
theorem valid_any (d : Dt) (w : World) : Calls Try.prog 61 #[dv d] w fun e w' => e = .returned (.bool (validR d)) ∧ Below w.heap.size w w' := by
  have HE : Hid (validR d = (decide (0 < d.1) && decide (d.1 ≤ 64) && decide (0 < d.2) && decide (d.2 ≤ 4294967295))) := rfl
  obtain ⟨d1, d2⟩ := d
  generalize validR (d1, d2) = R at *
  by_cases h1 : 1 ≤ d1
  · by_cases h2 : d1 ≤ 64
    · by_cases h3 : 1 ≤ d2
      · by_cases h4 : d2 ≤ 4294967295
        · have hR : R = true := by rw [HE.out]; simp; omega
          clear HE
          subst hR
          go_enter Try.func61, Try.ntmps61
          go_wp2_with fail
          go_ret
          exact ⟨rfl, bel_box _ _⟩
        · have hR : R = false := by rw [HE.out]; simp; omega
          clear HE
          subst hR
          go_enter Try.func61, Try.ntmps61
          go_wp2_with fail
          go_ret
          exact ⟨rfl, bel_box _ _⟩
      · have hR : R = false := by rw [HE.out]; simp; omega
        clear HE
        subst hR
        go_enter Try.func61, Try.ntmps61
        go_wp2_with fail
        go_ret
        exact ⟨rfl, bel_box _ _⟩
    · have hR : R = false := by rw [HE.out]; simp; omega
      clear HE
      subst hR
      go_enter Try.func61, Try.ntmps61
      go_wp2_with fail
      go_ret
      exact ⟨rfl, bel_box _ _⟩
  · have hR : R = false := by rw [HE.out]; simp; omega
    clear HE
    subst hR
    go_enter Try.func61, Try.ntmps61
    go_wp2_with fail
    go_ret
    exact ⟨rfl, bel_box _ _⟩
theorem eql_zero {d : Dt} (h : ¬ d = (0, 0)) : ∀ w, Sem.run Try.prog (binOp .eql 36 (.agg #[.int .i64 d.1, .int .i64 d.2]) (.agg #[.int .i64 0, .int .i64 0])) w = .ok (.bool false) w := fun w => eql_no (q := (0, 0)) h w
set_option maxRecDepth 100000 in
set_option maxHeartbeats 1000000 in
theorem root_any (d : Dt) (w : World) : Calls Try.prog 67 #[dv d] w fun e w' => e = .returned (.bool (rootR d)) ∧ Below w.heap.size w w' := by
  by_cases h : d = (0, 0)
  · subst h
    rw [show rootR (0, 0) = true from rfl]
    go_enter Try.func67, Try.ntmps67
    go_wp2_with fail
    go_ret
    exact ⟨rfl, bel_box _ _⟩
  · have hR : rootR d = false := by rw [← Bool.not_eq_true, root_iff]; exact h
    have hz := eql_zero h
    rw [hR]
    clear hR h
    obtain ⟨d1, d2⟩ := d
    go_enter Try.func67, Try.ntmps67
    go_wp2_with fail
    go_ret
    exact ⟨rfl, bel_box _ _⟩
end Go.Proofs.Ytfmlenhakejefaa.D
