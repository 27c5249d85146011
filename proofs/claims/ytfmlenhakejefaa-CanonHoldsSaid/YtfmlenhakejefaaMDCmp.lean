/-
  The order of two dots: the program's Compare, the reference's Less and Compare.
-/
import Derived.Test.YtfmlenhakejefaaDBase
import Derived.Deep.RegionWith
import Derived.RegionTactic
import Derived.Below
import Derived.Deep.QuietTactic

section
namespace Go.Proofs.Ytfmlenhakejefaa.D
set_option linter.unusedVariables false
open Go.RowKit V Go.Sort

theorem bel_drewN {B : Nat} {a w : World} (h : Below B a w) (n : Nat) : Below B a (w.drewN n) := h.trans ⟨rfl, rfl, rfl, Nat.le_refl _, fun _ _ => rfl⟩
theorem bel_tr {w w1 w2 : World} (h : Hid (Below w.heap.size w w1)) (hb : Below w1.heap.size w1 w2) : Hid (Below w.heap.size w w2) := h.out.trans (hb.mono h.out.size)
/-- Nothing but new blocks and draws. -/
def Lays (w w' : World) : Prop := ∃ q os', w' = grow (w.drewN q) os'
theorem bel_grow {B : Nat} {w w' : World} (h : Below B w w') (hB : B ≤ w'.heap.size) (os : Array Obj) : Below B w (grow w' os) := by
  refine ⟨h.os, h.tape, h.output, ?_, fun b hb => ?_⟩
  · have := h.size
    show _ ≤ (w'.heap ++ os).size
    rw [Array.size_append]; omega
  · show (w'.heap ++ os)[b]? = _
    rw [Array.getElem?_append_left (by omega)]
    exact h.block b hb
theorem Lays.bel {w w' : World} (h : Lays w w') : Below w.heap.size w w' := by
  obtain ⟨q, os, rfl⟩ := h
  exact bel_grow (bel_drewN (Below.refl _ _) q) (Nat.le_refl _) os
theorem lays_alloc2 (w : World) (o1 o2 : Obj) : Lays w ((w.alloc o1).alloc o2) := ⟨0, _, by rw [alloc_eq_grow, alloc_eq_grow, grow_grow]; rfl⟩

theorem cmp_two (x y : Dt) : (if cmpI x.2 y.2 = 0 then cmpI x.1 y.1 else cmpI x.2 y.2) = cmpR x y := by
  unfold cmpI cmpR less
  rcases Int.lt_trichotomy x.2 y.2 with h | h | h
  · have h1 : ¬ x.2 = y.2 := by omega
    simp [h, h1]
  · have h2 : ¬ x.2 < y.2 := by omega
    have h3 : ¬ y.2 < x.2 := by omega
    rw [if_neg h2, if_neg h3, if_pos rfl]
    simp [h]
  · have h1 : ¬ x.2 = y.2 := by omega
    have h2 : ¬ y.2 = x.2 := by omega
    have h3 : ¬ x.2 < y.2 := by omega
    simp [h, h1, h2, h3]

set_option maxRecDepth 100000 in
set_option maxHeartbeats 1000000 in
theorem compare_any (x y : Dt) (w : World) : Calls Try.prog 65 #[dv x, dv y] w fun e w' => e = .returned (.int .i64 (cmpR x y)) ∧ Lays w w' := by
  have HO := Lib.hid (fun (g : Nat) (w : World) h0 h1 => or_int (cmpI x.2 y.2) (cmpI x.1 y.1) g w h0 h1)
  rw [cmp_two] at HO
  generalize cmpR x y = c at *
  obtain ⟨x1, x2⟩ := x
  obtain ⟨y1, y2⟩ := y
  have HC := Lib.hid (fun (a b : Int) (w : World) => cmp_int a b w)
  go_enter Try.func65, Try.ntmps65
  go_wp2_with fail
  have k0 : ((w.alloc (Obj.cells #[Value.int IntKind.i64 x1, Value.int IntKind.i64 x2] 36)).alloc (Obj.cells #[Value.int IntKind.i64 y1, Value.int IntKind.i64 y2] 36)).cell? ⟨w.heap.size, 0, none⟩ = some (.int .i64 x1) := by go_simp
  have k1 : ((w.alloc (Obj.cells #[Value.int IntKind.i64 x1, Value.int IntKind.i64 x2] 36)).alloc (Obj.cells #[Value.int IntKind.i64 y1, Value.int IntKind.i64 y2] 36)).cell? ⟨w.heap.size, 1, none⟩ = some (.int .i64 x2) := by go_simp
  have k2 : ((w.alloc (Obj.cells #[Value.int IntKind.i64 x1, Value.int IntKind.i64 x2] 36)).alloc (Obj.cells #[Value.int IntKind.i64 y1, Value.int IntKind.i64 y2] 36)).cell? ⟨w.heap.size + 1, 0, none⟩ = some (.int .i64 y1) := by go_simp
  have k3 : ((w.alloc (Obj.cells #[Value.int IntKind.i64 x1, Value.int IntKind.i64 x2] 36)).alloc (Obj.cells #[Value.int IntKind.i64 y1, Value.int IntKind.i64 y2] 36)).cell? ⟨w.heap.size + 1, 1, none⟩ = some (.int .i64 y2) := by go_simp
  have hL := lays_alloc2 w (Obj.cells #[Value.int IntKind.i64 x1, Value.int IntKind.i64 x2] 36) (Obj.cells #[Value.int IntKind.i64 y1, Value.int IntKind.i64 y2] 36)
  generalize (w.alloc (Obj.cells #[Value.int IntKind.i64 x1, Value.int IntKind.i64 x2] 36)).alloc (Obj.cells #[Value.int IntKind.i64 y1, Value.int IntKind.i64 y2] 36) = w1 at *
  have HL := Lib.hid hL
  have l0 : ∀ w2, Bel w1 w2 → _ := fun w2 (h : Bel w1 w2) => load_int (w := w2) ((Below.cell h (p := ⟨_, _, none⟩) (lt_of_cell k0)).trans k0)
  have l1 : ∀ w2, Bel w1 w2 → _ := fun w2 (h : Bel w1 w2) => load_int (w := w2) ((Below.cell h (p := ⟨_, _, none⟩) (lt_of_cell k1)).trans k1)
  have l2 : ∀ w2, Bel w1 w2 → _ := fun w2 (h : Bel w1 w2) => load_int (w := w2) ((Below.cell h (p := ⟨_, _, none⟩) (lt_of_cell k2)).trans k2)
  have l3 : ∀ w2, Bel w1 w2 → _ := fun w2 (h : Bel w1 w2) => load_int (w := w2) ((Below.cell h (p := ⟨_, _, none⟩) (lt_of_cell k3)).trans k3)
  have H0 := Lib.hid l0
  have H1 := Lib.hid l1
  have H2 := Lib.hid l2
  have H3 := Lib.hid l3
  clear k0 k1 k2 k3 hL l0 l1 l2 l3
  refine Sch.wp_region_tree (Bel w1) (.take 0 (.take 1 (.take 2 (.take 3 (.take 5 (.take 6 (.take 7 (.take 8 (.one 4 (.one 9 (.one 10 (.one 11 (.take 12 .done))))))))))))) (by kernel_rfl) (by kernel_rfl) ((Below.refl _ _).drew) ?_
  have hB : Bel w1 w1.drew := (Below.refl _ _).drew
  have HB := Lib.hid hB
  clear hB
  repeat (first
    | (refine Sch.tree_q rfl rfl (fun K hK => ?_); go_big_quiet_op; (first | refine hK _ ?_ | refine ⟨_, fun _ _ => rfl, hK _ ?_⟩); clear hK K)
    | (refine tree_load _ _ _ _ _ rfl rfl rfl rfl (by first | exact H0.out | exact H1.out | exact H2.out | exact H3.out) rfl ?_; simp only [Act.put, List.setIfInBounds_toArray, List.set_cons_zero, List.set_cons_succ]))
  refine Sch.tree_e rfl rfl (fun K hK => ?_)
  go_wp2_with fail
  refine (HC.out _ _ _).mono ?_
  rintro e w2 ⟨rfl, rfl⟩
  refine hK _ _ HB.out ?_
  clear hK K
  refine Sch.tree_e rfl rfl (fun K hK => ?_)
  go_wp2_with fail
  refine (HC.out _ _ _).mono ?_
  rintro e w2 ⟨rfl, rfl⟩
  refine hK _ _ HB.out ?_
  clear hK K
  refine Sch.tree_e rfl rfl (fun K hK => ?_)
  go_wp2_with fail
  have hB2 : Bel w1 (w1.alloc (Obj.cells #[Value.int IntKind.i64 (cmpI x2 y2), Value.int IntKind.i64 (cmpI x1 y1)] 3)).drew := ((Below.refl _ _).alloc (Nat.le_refl _) _).drew
  refine hK _ _ hB2 ?_
  clear hK K
  refine Sch.tree_e rfl rfl (fun K hK => ?_)
  go_wp2_with fail
  refine (HO.out w1.heap.size _ (by go_simp) (by go_simp)).mono ?_
  rintro e w2 ⟨rfl, rfl⟩
  refine hK _ _ hB2 ?_
  clear hK K hB2
  refine Sch.tree_q rfl rfl (fun K hK => ?_)
  go_big_quiet_op
  refine hK _ ?_
  clear hK K
  refine Sch.tree_n ?_
  go_wp2_with fail
  go_ret
  obtain ⟨q, os, rfl⟩ := HL.out
  exact ⟨rfl, q + 1, os ++ #[_], by rw [alloc_eq_grow, grow_grow, ← World.drewN_drewN]; rfl⟩
end Go.Proofs.Ytfmlenhakejefaa.D
end

/-
  The reference's Same, Has and IsSet.
-/
section
namespace Go.Proofs.Ytfmlenhakejefaa.D
set_option linter.unusedVariables false
open Go.RowKit V Go.Sort

theorem RowD.get {w wr : World} {a : Option Addr} {l : List Dt} (h : RowD w a l) (hb : Below w.heap.size w wr) (k : Nat) (hk : k < l.length) :
    ∃ b o, a = some ⟨b, o, none⟩ ∧ wr.cell? ⟨b, o + k * 2, none⟩ = some (.int .i64 l[k].1) ∧ wr.cell? ⟨b, o + k * 2 + 1, none⟩ = some (.int .i64 l[k].2) := by
  have h' := h.keep hb
  rcases h' with rfl | ⟨b, o, rfl, hc⟩
  · simp at hk
  · exact ⟨b, o, rfl, hc k hk⟩

theorem neq_yes {p q : Dt} (h : ¬ p = q) : ∀ w, Sem.run Try.prog (binOp .neq 36 (.agg #[.int .i64 p.1, .int .i64 p.2]) (.agg #[.int .i64 q.1, .int .i64 q.2])) w = .ok (.bool true) w := by
  intro w
  have := neq_dot p q w
  rwa [decide_eq_false h] at this
theorem eql_no {p q : Dt} (h : ¬ p = q) : ∀ w, Sem.run Try.prog (binOp .eql 36 (.agg #[.int .i64 p.1, .int .i64 p.2]) (.agg #[.int .i64 q.1, .int .i64 q.2])) w = .ok (.bool false) w := by
  intro w
  have := eql_dot p q w
  rwa [decide_eq_false h] at this

end Go.Proofs.Ytfmlenhakejefaa.D
end
