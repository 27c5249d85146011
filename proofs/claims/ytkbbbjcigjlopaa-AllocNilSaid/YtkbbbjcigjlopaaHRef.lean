/-
  The reference's New, Take, Extend, Pass.
-/
import Derived.Test.YtkbbbjcigjlopaaHTake
namespace Go.Proofs.Ytkbbbjcigjlopaa.H
set_option linter.unusedVariables false
open Go.RowKit V Go.Sort D

theorem results_cell_two {fn : Func} {p u v : Tmp} {ty : TypeId} (h : fn.results = #[.cell p ty, .tmp u, .tmp v]) (tmps : Array Value) (P : Program) (w : World) :
    (results fn tmps).run P w =
      ((asAddr (tmps.getD p undef)).run P w).andThen fun a w₁ => ((loadVar ty a).run P w₁).andThen fun y w₂ => .ok (.tuple #[y, tmps.getD u undef, tmps.getD v undef]) w₂ := by
  simp only [results, h]
  simp [Sem.run_bind, Result.andThen]
set_option maxRecDepth 100000 in
set_option maxHeartbeats 1000000 in
theorem newR_ok (r l e : Int) (w : World) (h : newOk r l e = true) : Calls Try.prog 8 #[.int .i64 r, .int .i64 l, .int .i64 e] w fun x w' => x = .returned (.tuple #[av ⟨r, l, e⟩, .int .i64 0]) ∧ Below w.heap.size w w' := by
  obtain ⟨h1, h2, h3, h4, h5⟩ := newOk_iff.1 h
  clear h
  go_enter Try.func8, Try.ntmps8
  go_wp2_with fail
  (try simp only [Exit.inBlock, Exit.then])
  refine bodyPost_ret (v := .tuple #[av ⟨r, l, e⟩, .int .i64 0]) (by rw [results_cell_tmp (fn := Try.f8) (p := 6) (u := 7) (ty := 23) rfl]; go_simp) rfl ?_
  exact ⟨rfl, bel_box _ _⟩
theorem newR_no (r l e : Int) (w : World) (h : newOk r l e = false) : Calls Try.prog 8 #[.int .i64 r, .int .i64 l, .int .i64 e] w fun x w' => x = .returned (.tuple #[av ⟨0, 0, 0⟩, .int .i64 2]) ∧ Below w.heap.size w w' := by
  have key : ∀ w, (r < 1 ∨ (¬ r < 1 ∧ 64 < r) ∨ (¬ r < 1 ∧ ¬ 64 < r ∧ l < 0) ∨ (¬ r < 1 ∧ ¬ 64 < r ∧ ¬ l < 0 ∧ e < l) ∨ (¬ r < 1 ∧ ¬ 64 < r ∧ ¬ l < 0 ∧ ¬ e < l ∧ 4294967295 < e)) → Calls Try.prog 8 #[.int .i64 r, .int .i64 l, .int .i64 e] w fun x w' => x = .returned (.tuple #[av ⟨0, 0, 0⟩, .int .i64 2]) ∧ Below w.heap.size w w' := by
    intro w hc
    rcases hc with h1 | ⟨h1, h2⟩ | ⟨h1, h2, h3⟩ | ⟨h1, h2, h3, h4⟩ | ⟨h1, h2, h3, h4, h5⟩
    all_goals
      go_enter Try.func8, Try.ntmps8
      go_wp2_with fail
      (try simp only [Exit.inBlock, Exit.then])
      refine bodyPost_ret (v := .tuple #[av ⟨0, 0, 0⟩, .int .i64 2]) (by rw [results_cell_tmp (fn := Try.f8) (p := 6) (u := 7) (ty := 23) rfl]; go_simp) rfl ?_
      exact ⟨rfl, bel_box _ _⟩
  refine key w ?_
  rw [← Bool.not_eq_true, newOk_iff] at h
  omega
set_option maxRecDepth 100000 in
set_option maxHeartbeats 1000000 in
theorem ext_ref (x : Al) (n : Int) (w : World) : Calls Try.prog 31 #[av x, .int .i64 n] w fun e w' => e = .returned (.tuple #[av (extA x n).1, .int .i64 (extA x n).2]) ∧ Below w.heap.size w w' := by
  obtain ⟨r, l, e⟩ := x
  by_cases h0 : n < e
  · rw [show extA ⟨r, l, e⟩ n = (⟨r, l, e⟩, 2) by unfold extA; rw [if_pos (.inl h0)]]
    go_enter Try.func31, Try.ntmps31
    go_wp2_with fail
    (try simp only [Exit.inBlock, Exit.then])
    refine bodyPost_ret (v := .tuple #[av ⟨r, l, e⟩, .int .i64 2]) (by rw [results_cell_tmp (fn := Try.f31) (p := 4) (u := 5) (ty := 23) rfl]; go_simp) rfl ?_
    exact ⟨rfl, (bel_box _ _).alloc (by simp) _⟩
  · by_cases h1 : 4294967295 < n
    · rw [show extA ⟨r, l, e⟩ n = (⟨r, l, e⟩, 2) by unfold extA; rw [if_pos (.inr h1)]]
      go_enter Try.func31, Try.ntmps31
      go_wp2_with fail
      (try simp only [Exit.inBlock, Exit.then])
      refine bodyPost_ret (v := .tuple #[av ⟨r, l, e⟩, .int .i64 2]) (by rw [results_cell_tmp (fn := Try.f31) (p := 4) (u := 5) (ty := 23) rfl]; go_simp) rfl ?_
      exact ⟨rfl, (bel_box _ _).alloc (by simp) _⟩
    · rw [show extA ⟨r, l, e⟩ n = (⟨r, l, n⟩, 0) by unfold extA; simp only; rw [if_neg (by omega)]]
      go_enter Try.func31, Try.ntmps31
      go_wp2_with fail
      (try simp only [Exit.inBlock, Exit.then])
      refine bodyPost_ret (v := .tuple #[av ⟨r, l, n⟩, .int .i64 0]) (by rw [results_cell_tmp (fn := Try.f31) (p := 4) (u := 5) (ty := 23) rfl]; go_simp) rfl ?_
      exact ⟨rfl, (bel_box _ _).alloc (by simp) _⟩
set_option maxRecDepth 100000 in
set_option maxHeartbeats 1000000 in
theorem pass_ref (x : Al) (n : Int) (w : World) : Calls Try.prog 32 #[av x, .int .i64 n] w fun e w' => e = .returned (.tuple #[av (passA x n).1, .int .i64 (passA x n).2]) ∧ Below w.heap.size w w' := by
  obtain ⟨r, l, e⟩ := x
  by_cases h0 : n < 0
  · rw [show passA ⟨r, l, e⟩ n = (⟨r, l, e⟩, 2) by unfold passA; rw [if_pos h0]]
    go_enter Try.func32, Try.ntmps32
    go_wp2_with fail
    (try simp only [Exit.inBlock, Exit.then])
    refine bodyPost_ret (v := .tuple #[av ⟨r, l, e⟩, .int .i64 2]) (by rw [results_cell_tmp (fn := Try.f32) (p := 4) (u := 5) (ty := 23) rfl]; go_simp) rfl ?_
    exact ⟨rfl, (bel_box _ _).alloc (by simp) _⟩
  · by_cases h1 : e < n
    · rw [show passA ⟨r, l, e⟩ n = (⟨r, l, e⟩, 3) by unfold passA; simp only; rw [if_neg h0, if_pos h1]]
      go_enter Try.func32, Try.ntmps32
      go_wp2_with fail
      (try simp only [Exit.inBlock, Exit.then])
      refine bodyPost_ret (v := .tuple #[av ⟨r, l, e⟩, .int .i64 3]) (by rw [results_cell_tmp (fn := Try.f32) (p := 4) (u := 5) (ty := 23) rfl]; go_simp) rfl ?_
      exact ⟨rfl, (bel_box _ _).alloc (by simp) _⟩
    · by_cases h2 : l < n
      · rw [show passA ⟨r, l, e⟩ n = (⟨r, n, e⟩, 0) by unfold passA; simp only; rw [if_neg h0, if_neg h1, if_pos h2]]
        go_enter Try.func32, Try.ntmps32
        go_wp2_with fail
        (try simp only [Exit.inBlock, Exit.then])
        refine bodyPost_ret (v := .tuple #[av ⟨r, n, e⟩, .int .i64 0]) (by rw [results_cell_tmp (fn := Try.f32) (p := 4) (u := 5) (ty := 23) rfl]; go_simp) rfl ?_
        exact ⟨rfl, (bel_box _ _).alloc (by simp) _⟩
      · rw [show passA ⟨r, l, e⟩ n = (⟨r, l, e⟩, 0) by unfold passA; simp only; rw [if_neg h0, if_neg h1, if_neg h2]]
        go_enter Try.func32, Try.ntmps32
        go_wp2_with fail
        (try simp only [Exit.inBlock, Exit.then])
        refine bodyPost_ret (v := .tuple #[av ⟨r, l, e⟩, .int .i64 0]) (by rw [results_cell_tmp (fn := Try.f32) (p := 4) (u := 5) (ty := 23) rfl]; go_simp) rfl ?_
        exact ⟨rfl, (bel_box _ _).alloc (by simp) _⟩
end Go.Proofs.Ytkbbbjcigjlopaa.H
