/-
  The law's 'does' at Next.
-/
import Derived.Test.YtkbbbjcigjlopaaHDoes
namespace Go.Proofs.Ytkbbbjcigjlopaa.H
set_option linter.unusedVariables false
open Go.RowKit V Go.Sort D

/-- A dot in memory. -/
def Xd (w : World) (z : Nat) (d : Dt) : Prop := w.cell? ⟨z, 0, none⟩ = some (.int .i64 d.1) ∧ w.cell? ⟨z, 1, none⟩ = some (.int .i64 d.2)
theorem Xd.keep {w w' : World} {z : Nat} {d : Dt} (h : Xd w z d) (hb : Below w.heap.size w w') : Xd w' z d := ⟨(hb.cell (p := ⟨_, _, none⟩) (lt_of_cell h.1)).trans h.1, (hb.cell (p := ⟨_, _, none⟩) (lt_of_cell h.2)).trans h.2⟩
theorem Xd.gb {w w' : World} {z g : Nat} {d : Dt} (h : Xd w z d) (hg : w.grownBy w' (some g)) (hne : z ≠ g) : Xd w' z d := by
  have e := hg.block z (lt_of_cell h.1) (by simpa using hne)
  exact ⟨(World.cell?_of_block (w := w) e).trans h.1, (World.cell?_of_block (w := w) e).trans h.2⟩
def S2 (b z : Nat) (y : Al) (d : Dt) (w : World) : Prop := A3 w b y ∧ Xd w z d
theorem S2.la {b z : Nat} {y : Al} {d : Dt} : ∀ w, S2 b z y d w → (Instr.loadAt 23 (.pointer (some ⟨b, 0, none⟩))).run Try.prog w = .ok (av y) w := fun _ h => load_al h.1
theorem S2.ld {b z : Nat} {y : Al} {d : Dt} : ∀ w, S2 b z y d w → (Instr.loadAt 39 (.pointer (some ⟨z, 0, none⟩))).run Try.prog w = .ok (dv d) w := fun _ h => load_dot h.2.1 h.2.2
theorem S2.gb {b z g : Nat} {y : Al} {d : Dt} {w w' : World} (h : S2 b z y d w) (hg : w.grownBy w' (some g)) (h1 : b ≠ g) (h2 : z ≠ g) : S2 b z y d w' := ⟨h.1.gb hg h1, h.2.gb hg h2⟩
theorem S2.put3 {w : World} {b z B : Nat} {y : Al} {d : Dt} (h : S2 b z y d w) (h1 : b ≠ B) (h2 : z ≠ B) (u v t : Value) : S2 b z y d (((w.setCell ⟨B, 0, none⟩ u).setCell ⟨B, 1, none⟩ v).setCell ⟨B, 2, none⟩ t) :=
  ((h.gb (gb_setCell _ B _ _) h1 h2).gb (gb_setCell _ B _ _) h1 h2).gb (gb_setCell _ B _ _) h1 h2
theorem Xd.put {w : World} {z : Nat} {T : TypeId} {a c : Int} (hh : w.heap[z]? = some (.cells #[.int .i64 a, .int .i64 c] T (0, 0))) (d : Dt) : Xd ((w.setCell ⟨z, 0, none⟩ (.int .i64 d.1)).setCell ⟨z, 1, none⟩ (.int .i64 d.2)) z d := by
  have e := (Array.getElem?_eq_some_iff.1 hh).1
  have e2 := (Array.getElem?_eq_some_iff.1 hh).2
  refine ⟨?_, ?_⟩ <;> simp [World.cell?, World.setCell, e, Array.getElem_modify, e2]

set_option maxRecDepth 100000 in
set_option maxHeartbeats 2000000 in
theorem does_next (g : Nat) (x : Al) (n : Int) (w : World) (h : Am w g x) : Calls Try.prog 17 #[.pointer (some ⟨g, 0, none⟩), av x, .agg #[.int .i64 0, .int .i64 n]] w fun e w' => e = .returned (.tuple #[av (takeA x 1).1, .bool true]) ∧ Am w' g (takeA x 1).1 ∧ w.grownBy w' (some g) := by
  have HD := Lib.hid (dw_new w x (0, n) 23 36 23)
  have hb : Below w.heap.size w (((w.alloc (abox x 23)).alloc (.cells #[.int .i64 0, .int .i64 n] 36)).alloc (abox ⟨0, 0, 0⟩ 23)) := ((bel_box _ _).alloc (by simp) _).alloc (by simp; omega) _
  have HA := Lib.hid (h.keep hb)
  have HB := Lib.hid (gb_below hb (some g))
  have hg := h.1.lt
  clear h hb
  have HTR := Lib.hid (fun w (hv : Vs x) => take_ref x 1 w hv)
  have HNX := Lib.hid (fun w (h : Am w g x) => next_am g x w h)
  rw [take_one] at HTR HNX
  by_cases h1 : x.e - x.l < 1
  · have HYe : Hid ((takeA x 1).1 = x) := by show _ = _; rw [take_one, if_pos h1]
    rw [if_pos h1] at HTR HNX
    clear h1
    simp only [headD, List.headD_nil, List.headD_cons, List.length_nil, List.length_cons] at HTR HNX
    go_enter Try.func17, Try.ntmps17
    go_wp2_with fail
    have hW : (((w.alloc (abox x 23)).alloc (.cells #[.int .i64 0, .int .i64 n] 36)).alloc (abox ⟨0, 0, 0⟩ 23)).heap.size = w.heap.size + 1 + 1 + 1 := by simp
    generalize ((w.alloc _).alloc _).alloc _ = W at *
    refine (HTR.out W HA.out.2.vs).mono ?_
    rintro e w1 ⟨a, c, rfl, hr, hnil, hlc, hfr, hb⟩
    have hb2 : Below w1.heap.size w1 ((w1.alloc (abox x 23)).alloc (.cells #[.int .i64 ((0, 0) : Dt).1, .int .i64 ((0, 0) : Dt).2] 39)) := (bel_box _ _).alloc (by simp) _
    have HY := Lib.hid ((a3_new w1 x 23).keep (bel_box _ (.cells #[.int .i64 ((0, 0) : Dt).1, .int .i64 ((0, 0) : Dt).2] 39)))
    have HX : Hid (Xd ((w1.alloc (abox x 23)).alloc (.cells #[.int .i64 ((0, 0) : Dt).1, .int .i64 ((0, 0) : Dt).2] 39)) (w1.heap.size + 1) (0, 0)) := by
      have h := cells_new (w1.alloc (abox x 23)) (0, 0) 39
      rw [show (w1.alloc (abox x 23)).heap.size = w1.heap.size + 1 by simp] at h
      exact h
    replace HD := Lib.hid ((HD.out.keep hb).keep hb2)
    replace HA := Lib.hid ((HA.out.keep hb).keep hb2)
    replace HB := Lib.hid (gb_trans (gb_trans HB.out (gb_below hb _)) (gb_below hb2 _))
    have hne : Hid (w.heap.size + 1 + 1 + 1 ≤ w1.heap.size) := by have := hb.size; show _ ≤ _; omega
    clear hr hfr hb hb2 HTR hnil hlc
    go_wp2_with fail
    (try simp only at HY HX HD HA HB)
    generalize (w1.alloc _).alloc _ = W2 at *
    generalize w1.heap.size = b at *
    have hS : Hid (S2 b (b + 1) x (0, 0) W2.drew) := ⟨HY.out.drewN 1, HX.out.keep (lays_drew W2).bel⟩
    refine Sch.wp_region_tree (S2 b (b + 1) x (0, 0)) (.take 0 (.take 1 (.take 2 (.take 3 (.one 4 (.one 5 (.take 6 .done))))))) (by kernel_rfl) (by kernel_rfl) hS.out ?_
    repeat (first
      | (refine Sch.tree_q rfl rfl (fun K hK => ?_); go_big_quiet_op; (first | refine hK _ ?_ | refine ⟨_, fun _ _ => rfl, hK _ ?_⟩); clear hK K)
      | (refine tree_load _ _ _ _ _ rfl rfl rfl rfl (by first | exact S2.la | exact S2.ld) rfl ?_; simp only [Act.put, List.setIfInBounds_toArray, List.set_cons_zero, List.set_cons_succ]))
    refine Sch.tree_e rfl rfl (fun K hK => ?_)
    go_wp2_with fail
    refine (HNX.out _ (HA.out.keep (lays_drew W2).bel)).mono ?_
    rintro e w3 ⟨rfl, ha, hg3⟩
    have hgb : Hid (g < b) := by have := hne.out; show _ < _; omega
    replace HD := Lib.hid ((HD.out.keep (lays_drew W2).bel).gb hg3 hg)
    replace HA := Lib.hid ha
    replace HB := Lib.hid (gb_trans HB.out (gb_trans (gb_below (lays_drew W2).bel _) hg3))
    replace hS := Lib.hid (hS.out.gb hg3 (by have := hgb.out; omega) (by have := hgb.out; omega))
    clear ha hg3 HY HX HNX
    refine hK _ _ hS.out ?_
    clear hK K
    have j0 := HD.out.2.2.c0
    have j1 := HD.out.2.2.c1
    have j2 := HD.out.2.2.c2
    have f0 := HD.out.2.2.free 0
    have f1 := HD.out.2.2.free 1
    have f2 := HD.out.2.2.free 2
    simp only at j0 j1 j2
    refine Sch.tree_e rfl rfl (fun K hK => ?_)
    go_wp2_with fail
    refine hK _ _ (hS.out.put3 (by have := hne.out; omega) (by have := hne.out; omega) _ _ _) ?_
    clear hK K
    refine Sch.tree_q rfl rfl (fun K hK => ?_)
    go_big_quiet_op
    refine hK _ ?_
    clear hK K
    refine Sch.tree_n ?_
    go_wp2_with fail
    (try simp only [Exit.inBlock, Exit.then])
    refine bodyPost_ret (v := .tuple #[av x, .bool true]) (results_does (HD.out.2.2.put x) rfl rfl) rfl ?_
    rw [HYe.out]
    exact ⟨rfl, HA.out.put3 (by omega) _ _ _, gb_put3 HB.out (by omega) _ _ _⟩
  · have HYe : Hid ((takeA x 1).1 = ⟨x.r, x.l + 1, x.e⟩) := by show _ = _; rw [take_one, if_neg h1]
    rw [if_neg h1] at HTR HNX
    clear h1
    simp only [headD, List.headD_nil, List.headD_cons, List.length_nil, List.length_cons] at HTR HNX
    go_enter Try.func17, Try.ntmps17
    go_wp2_with fail
    have hW : (((w.alloc (abox x 23)).alloc (.cells #[.int .i64 0, .int .i64 n] 36)).alloc (abox ⟨0, 0, 0⟩ 23)).heap.size = w.heap.size + 1 + 1 + 1 := by simp
    generalize ((w.alloc _).alloc _).alloc _ = W at *
    refine (HTR.out W HA.out.2.vs).mono ?_
    rintro e w1 ⟨a, c, rfl, hr, hnil, hlc, hfr, hb⟩
    obtain ⟨b0, o0, rfl, hr0⟩ := hr.resolve_left (by simp)
    have r0 := (hr0 0 (by simp)).1
    have r1 := (hr0 0 (by simp)).2
    simp only [List.getElem_cons_zero, Nat.zero_mul, Nat.add_zero, Nat.zero_add] at r0 r1
    have q0 := fun o1 o2 => (((bel_box w1 o1).trans ((bel_box (w1.alloc o1) o2).mono (by simp))).cell (p := ⟨b0, o0, none⟩) (lt_of_cell r0)).trans r0
    have q1 := fun o1 o2 => (((bel_box w1 o1).trans ((bel_box (w1.alloc o1) o2).mono (by simp))).cell (p := ⟨b0, o0 + 1, none⟩) (lt_of_cell r1)).trans r1
    have hix := ix_dot b0 o0 1 c 0 0 rfl (by omega)
    simp only [Nat.zero_mul, Nat.add_zero] at hix
    clear r0 r1 hr0
    have hb2 : Below w1.heap.size w1 ((w1.alloc (abox ⟨x.r, x.l + 1, x.e⟩ 23)).alloc (.cells #[.int .i64 ((x.r, x.l + 1) : Dt).1, .int .i64 ((x.r, x.l + 1) : Dt).2] 39)) := (bel_box _ _).alloc (by simp) _
    have HY := Lib.hid ((a3_new w1 ⟨x.r, x.l + 1, x.e⟩ 23).keep (bel_box _ (.cells #[.int .i64 ((x.r, x.l + 1) : Dt).1, .int .i64 ((x.r, x.l + 1) : Dt).2] 39)))
    have HX : Hid (Xd ((w1.alloc (abox ⟨x.r, x.l + 1, x.e⟩ 23)).alloc (.cells #[.int .i64 ((x.r, x.l + 1) : Dt).1, .int .i64 ((x.r, x.l + 1) : Dt).2] 39)) (w1.heap.size + 1) (x.r, x.l + 1)) := by
      have h := cells_new (w1.alloc (abox ⟨x.r, x.l + 1, x.e⟩ 23)) (x.r, x.l + 1) 39
      rw [show (w1.alloc (abox ⟨x.r, x.l + 1, x.e⟩ 23)).heap.size = w1.heap.size + 1 by simp] at h
      exact h
    replace HD := Lib.hid ((HD.out.keep hb).keep hb2)
    replace HA := Lib.hid ((HA.out.keep hb).keep hb2)
    replace HB := Lib.hid (gb_trans (gb_trans HB.out (gb_below hb _)) (gb_below hb2 _))
    have hne : Hid (w.heap.size + 1 + 1 + 1 ≤ w1.heap.size) := by have := hb.size; show _ ≤ _; omega
    clear hr hfr hb hb2 HTR hnil hlc
    go_wp2_with fail
    (try simp only at HY HX HD HA HB)
    generalize (w1.alloc _).alloc _ = W2 at *
    generalize w1.heap.size = b at *
    have hS : Hid (S2 b (b + 1) ⟨x.r, x.l + 1, x.e⟩ (x.r, x.l + 1) W2.drew) := ⟨HY.out.drewN 1, HX.out.keep (lays_drew W2).bel⟩
    refine Sch.wp_region_tree (S2 b (b + 1) ⟨x.r, x.l + 1, x.e⟩ (x.r, x.l + 1)) (.take 0 (.take 1 (.take 2 (.take 3 (.one 4 (.one 5 (.take 6 .done))))))) (by kernel_rfl) (by kernel_rfl) hS.out ?_
    repeat (first
      | (refine Sch.tree_q rfl rfl (fun K hK => ?_); go_big_quiet_op; (first | refine hK _ ?_ | refine ⟨_, fun _ _ => rfl, hK _ ?_⟩); clear hK K)
      | (refine tree_load _ _ _ _ _ rfl rfl rfl rfl (by first | exact S2.la | exact S2.ld) rfl ?_; simp only [Act.put, List.setIfInBounds_toArray, List.set_cons_zero, List.set_cons_succ]))
    refine Sch.tree_e rfl rfl (fun K hK => ?_)
    go_wp2_with fail
    refine (HNX.out _ (HA.out.keep (lays_drew W2).bel)).mono ?_
    rintro e w3 ⟨rfl, ha, hg3⟩
    have hgb : Hid (g < b) := by have := hne.out; show _ < _; omega
    replace HD := Lib.hid ((HD.out.keep (lays_drew W2).bel).gb hg3 hg)
    replace HA := Lib.hid ha
    replace HB := Lib.hid (gb_trans HB.out (gb_trans (gb_below (lays_drew W2).bel _) hg3))
    replace hS := Lib.hid (hS.out.gb hg3 (by have := hgb.out; omega) (by have := hgb.out; omega))
    clear ha hg3 HY HX HNX
    refine hK _ _ hS.out ?_
    clear hK K
    have j0 := HD.out.2.2.c0
    have j1 := HD.out.2.2.c1
    have j2 := HD.out.2.2.c2
    have f0 := HD.out.2.2.free 0
    have f1 := HD.out.2.2.free 1
    have f2 := HD.out.2.2.free 2
    simp only at j0 j1 j2
    refine Sch.tree_e rfl rfl (fun K hK => ?_)
    go_wp2_with fail
    refine hK _ _ (hS.out.put3 (by have := hne.out; omega) (by have := hne.out; omega) _ _ _) ?_
    clear hK K
    refine Sch.tree_q rfl rfl (fun K hK => ?_)
    go_big_quiet_op
    refine hK _ ?_
    clear hK K
    refine Sch.tree_n ?_
    go_wp2_with fail
    (try simp only [Exit.inBlock, Exit.then])
    refine bodyPost_ret (v := .tuple #[av ⟨x.r, x.l + 1, x.e⟩, .bool true]) (results_does (HD.out.2.2.put ⟨x.r, x.l + 1, x.e⟩) rfl rfl) rfl ?_
    rw [HYe.out]
    exact ⟨rfl, HA.out.put3 (by omega) _ _ _, gb_put3 HB.out (by omega) _ _ _⟩
/-- One call other than Copy. -/
theorem does_any (g : Nat) (x : Al) (q : Dt) (w : World) (h : Am w g x) (h0 : 0 ≤ q.1) (h5 : q.1 ≤ 5) : Calls Try.prog 17 #[.pointer (some ⟨g, 0, none⟩), av x, .agg #[.int .i64 q.1, .int .i64 q.2]] w fun e w' => e = .returned (.tuple #[av (stepA x q), .bool true]) ∧ Am w' g (stepA x q) ∧ w.grownBy w' (some g) := by
  obtain ⟨what, n⟩ := q
  simp only at h0 h5
  have hc : what = 0 ∨ what = 1 ∨ what = 2 ∨ what = 3 ∨ what = 4 ∨ what = 5 := by omega
  rcases hc with rfl | rfl | rfl | rfl | rfl | rfl
  · exact does_next g x n w h
  · exact does_take g x n w h
  · exact does_ext g x n w h
  · exact does_pass g x n w h
  · exact does_extBy g x n w h
  · exact does_passBy g x n w h
end Go.Proofs.Ytkbbbjcigjlopaa.H
