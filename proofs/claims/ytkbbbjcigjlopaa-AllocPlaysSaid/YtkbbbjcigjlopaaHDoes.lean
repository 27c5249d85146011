/-
  The law's 'does': one call, and what the reference's allocator is then.
-/
import Derived.Test.YtkbbbjcigjlopaaHKnown
namespace Go.Proofs.Ytkbbbjcigjlopaa.H
set_option linter.unusedVariables false
open Go.RowKit V Go.Sort D

/-- The boxes of the call: the reference's allocator, the act, the result. -/
def Dw (B : Nat) (x : Al) (q : Dt) (w : World) : Prop := A3 w B x ∧ (w.cell? ⟨B + 1, 0, none⟩ = some (.int .i64 q.1) ∧ w.cell? ⟨B + 1, 1, none⟩ = some (.int .i64 q.2)) ∧ A3 w (B + 1 + 1) ⟨0, 0, 0⟩
theorem Dw.keep {B : Nat} {x : Al} {q : Dt} {w w' : World} (h : Dw B x q w) (hb : Below w.heap.size w w') : Dw B x q w' :=
  ⟨h.1.keep hb, ⟨(hb.cell (p := ⟨_, _, none⟩) (lt_of_cell h.2.1.1)).trans h.2.1.1, (hb.cell (p := ⟨_, _, none⟩) (lt_of_cell h.2.1.2)).trans h.2.1.2⟩, h.2.2.keep hb⟩
theorem Dw.gb {B : Nat} {x : Al} {q : Dt} {w w' : World} {g : Nat} (h : Dw B x q w) (hg : w.grownBy w' (some g)) (hlt : g < B) : Dw B x q w' := by
  have e := hg.block (B + 1) (lt_of_cell h.2.1.1) (by simp; omega)
  exact ⟨h.1.gb hg (by omega), ⟨(World.cell?_of_block (w := w) e).trans h.2.1.1, (World.cell?_of_block (w := w) e).trans h.2.1.2⟩, h.2.2.gb hg (by omega)⟩
theorem dw_new (w : World) (x : Al) (q : Dt) (s t u : TypeId) : Dw w.heap.size x q (((w.alloc (abox x s)).alloc (.cells #[.int .i64 q.1, .int .i64 q.2] t)).alloc (abox ⟨0, 0, 0⟩ u)) := by
  have hb : Below (w.alloc (abox x s)).heap.size (w.alloc (abox x s)) (((w.alloc (abox x s)).alloc (.cells #[.int .i64 q.1, .int .i64 q.2] t)).alloc (abox ⟨0, 0, 0⟩ u)) := (bel_box _ _).alloc (by simp) _
  obtain ⟨c0, c1⟩ := cells_new (w.alloc (abox x s)) q t
  rw [show (w.alloc (abox x s)).heap.size = w.heap.size + 1 by simp] at c0 c1
  have hb2 := bel_box ((w.alloc (abox x s)).alloc (.cells #[.int .i64 q.1, .int .i64 q.2] t)) (abox ⟨0, 0, 0⟩ u)
  refine ⟨(a3_new w x s).keep hb, ⟨(hb2.cell (p := ⟨_, _, none⟩) (lt_of_cell c0)).trans c0, (hb2.cell (p := ⟨_, _, none⟩) (lt_of_cell c1)).trans c1⟩, ?_⟩
  have h := a3_new ((w.alloc (abox x s)).alloc (.cells #[.int .i64 q.1, .int .i64 q.2] t)) ⟨0, 0, 0⟩ u
  rwa [show ((w.alloc (abox x s)).alloc (.cells #[.int .i64 q.1, .int .i64 q.2] t)).heap.size = w.heap.size + 1 + 1 by simp] at h
theorem load_al {w : World} {b : Nat} {y : Al} (h : A3 w b y) : (Instr.loadAt 23 (.pointer (some ⟨b, 0, none⟩))).run Try.prog w = .ok (av y) w := by
  have k0 := h.c0
  have k1 := h.c1
  have k2 := h.c2
  go_simp
/-- What a call makes of an allocator. -/
def stepA (x : Al) (q : Dt) : Al :=
  if q.1 = 0 then (takeA x 1).1 else if q.1 = 1 then (takeA x q.2).1 else if q.1 = 2 then (extA x q.2).1 else if q.1 = 4 then (extA x (x.e + q.2.tmod 1000)).1
  else if q.1 = 5 then (passA x (x.l + q.2.tmod 1000)).1 else (passA x q.2).1
/-- The classes of worlds of the drawing regions. -/
def S1 (b B : Nat) (y : Al) (n : Int) (w : World) : Prop := A3 w b y ∧ w.cell? ⟨B + 1, 1, none⟩ = some (.int .i64 n)
theorem S1.la {b B : Nat} {y : Al} {n : Int} : ∀ w, S1 b B y n w → (Instr.loadAt 23 (.pointer (some ⟨b, 0, none⟩))).run Try.prog w = .ok (av y) w := fun _ h => load_al h.1
theorem S1.ln {b B : Nat} {y : Al} {n : Int} : ∀ w, S1 b B y n w → (Instr.loadAt 3 (.pointer (some ⟨B + 1, 1, none⟩))).run Try.prog w = .ok (.int .i64 n) w := fun _ h => load_int h.2
theorem S1.gb {b B g : Nat} {y : Al} {n : Int} {w w' : World} (h : S1 b B y n w) (hg : w.grownBy w' (some g)) (h1 : b ≠ g) (h2 : B + 1 ≠ g) : S1 b B y n w' :=
  ⟨h.1.gb hg h1, (World.cell?_of_block (hg.block (B + 1) (lt_of_cell h.2) (by simpa using h2))).trans h.2⟩
theorem A3.put {w : World} {b : Nat} {x : Al} (h : A3 w b x) (y : Al) : A3 (((w.setCell ⟨b, 0, none⟩ (.int .i64 y.r)).setCell ⟨b, 1, none⟩ (.int .i64 y.l)).setCell ⟨b, 2, none⟩ (.int .i64 y.e)) b y := by
  obtain ⟨T, h⟩ := h
  refine ⟨T, ?_⟩
  simp [World.setCell, Array.getElem?_modify, h]
theorem results_does {w : World} {b : Nat} {y : Al} (h : A3 w b y) {tmps : Array Value} (h6 : tmps.getD 6 undef = .pointer (some ⟨b, 0, none⟩)) (h7 : tmps.getD 7 undef = .bool true) :
    (results Try.f17 tmps).run Try.prog w = .ok (.tuple #[av y, .bool true]) w := by
  have k0 := h.c0
  have k1 := h.c1
  have k2 := h.c2
  rw [results_cell_tmp (fn := Try.f17) (p := 6) (u := 7) (ty := 23) rfl, h6, h7]
  go_simp
theorem gb_put3 {w w' : World} {g b : Nat} (h : w.grownBy w' (some g)) (hb : w.heap.size ≤ b) (u v z : Value) : w.grownBy (((w'.setCell ⟨b, 0, none⟩ u).setCell ⟨b, 1, none⟩ v).setCell ⟨b, 2, none⟩ z) (some g) := gb_new (gb_new (gb_new h hb _ _) hb _ _) hb _ _
theorem Am.put3 {w : World} {g b : Nat} {x : Al} (h : Am w g x) (hne : g ≠ b) (u v z : Value) : Am (((w.setCell ⟨b, 0, none⟩ u).setCell ⟨b, 1, none⟩ v).setCell ⟨b, 2, none⟩ z) g x := ((h.gb (gb_setCell _ _ _ _) hne).gb (gb_setCell _ _ _ _) hne).gb (gb_setCell _ _ _ _) hne
theorem A3.put3 {w : World} {g b : Nat} {x : Al} (h : A3 w g x) (hne : g ≠ b) (u v z : Value) : A3 (((w.setCell ⟨b, 0, none⟩ u).setCell ⟨b, 1, none⟩ v).setCell ⟨b, 2, none⟩ z) g x := ((h.gb (gb_setCell _ _ _ _) hne).gb (gb_setCell _ _ _ _) hne).gb (gb_setCell _ _ _ _) hne
theorem S1.put3 {w : World} {b B : Nat} {y : Al} {n : Int} (h : S1 b B y n w) (hne : b ≠ B + 1 + 1) (u v z : Value) : S1 b B y n (((w.setCell ⟨B + 1 + 1, 0, none⟩ u).setCell ⟨B + 1 + 1, 1, none⟩ v).setCell ⟨B + 1 + 1, 2, none⟩ z) :=
  ((h.gb (gb_setCell _ (B + 1 + 1) _ _) hne (by omega)).gb (gb_setCell _ (B + 1 + 1) _ _) hne (by omega)).gb (gb_setCell _ (B + 1 + 1) _ _) hne (by omega)

set_option maxRecDepth 100000 in
set_option maxHeartbeats 2000000 in
theorem does_take (g : Nat) (x : Al) (n : Int) (w : World) (h : Am w g x) : Calls Try.prog 17 #[.pointer (some ⟨g, 0, none⟩), av x, .agg #[.int .i64 1, .int .i64 n]] w fun e w' => e = .returned (.tuple #[av (takeA x n).1, .bool true]) ∧ Am w' g (takeA x n).1 ∧ w.grownBy w' (some g) := by
  have HD := Lib.hid (dw_new w x (1, n) 23 36 23)
  have hb : Below w.heap.size w (((w.alloc (abox x 23)).alloc (.cells #[.int .i64 1, .int .i64 n] 36)).alloc (abox ⟨0, 0, 0⟩ 23)) := ((bel_box _ _).alloc (by simp) _).alloc (by simp; omega) _
  have HA := Lib.hid (h.keep hb)
  have HB := Lib.hid (gb_below hb (some g))
  have hg := h.1.lt
  clear h hb
  go_enter Try.func17, Try.ntmps17
  go_wp2_with fail
  have hW : (((w.alloc (abox x 23)).alloc (.cells #[.int .i64 1, .int .i64 n] 36)).alloc (abox ⟨0, 0, 0⟩ 23)).heap.size = w.heap.size + 1 + 1 + 1 := by simp
  generalize ((w.alloc _).alloc _).alloc _ = W at *
  refine (take_ref x n W HA.out.2.vs).mono ?_
  rintro e w1 ⟨a, c, rfl, hr, hnil, hlc, hfr, hb⟩
  have HF : Hid (∀ b o, a = some ⟨b, o, none⟩ → b ≠ g) := fun b o e => by have := hfr b o e; have := HB.out.size; omega
  have hb2 := bel_box w1 (abox (takeA x n).1 23)
  have HY := Lib.hid (a3_new w1 (takeA x n).1 23)
  have HX := Lib.hid (hr.keep hb2)
  replace HD := Lib.hid ((HD.out.keep hb).keep hb2)
  replace HA := Lib.hid ((HA.out.keep hb).keep hb2)
  replace HB := Lib.hid (gb_trans (gb_trans HB.out (gb_below hb _)) (gb_below hb2 _))
  have hne : Hid (w.heap.size + 1 + 1 + 1 ≤ w1.heap.size) := by have := hb.size; show _ ≤ _; omega
  clear hr hfr hb hb2
  have n1 := HD.out.2.1.2
  have HT := Lib.hid (fun w (h : Am w g x) (hx : RowD w a (takeA x n).2.1) => takes_am g x n a c w h hx HF.out)
  simp only at n1
  generalize hYe : takeA x n = Y at *
  obtain ⟨y, l, no⟩ := Y
  have HYe := Lib.hid hYe
  clear hYe
  simp only at *
  go_wp2_with fail
  generalize w1.alloc (abox y 23) = W2 at *
  generalize w1.heap.size = b at *
  have hS : Hid (S1 b w.heap.size y n W2.drew) := ⟨HY.out.drewN 1, n1⟩
  clear n1
  refine Sch.wp_region_tree (S1 b w.heap.size y n) (.take 0 (.take 1 (.take 2 (.take 3 (.take 4 (.take 5 (.one 6 (.one 7 (.take 8 .done))))))))) (by kernel_rfl) (by kernel_rfl) hS.out ?_
  repeat (first
    | (refine Sch.tree_q rfl rfl (fun K hK => ?_); go_big_quiet_op; (first | refine hK _ ?_ | refine ⟨_, fun _ _ => rfl, hK _ ?_⟩); clear hK K)
    | (refine tree_load _ _ _ _ _ rfl rfl rfl rfl (by first | exact S1.la | exact S1.ln) rfl ?_; simp only [Act.put, List.setIfInBounds_toArray, List.set_cons_zero, List.set_cons_succ]))
  refine Sch.tree_e rfl rfl (fun K hK => ?_)
  go_wp2_with fail
  refine (HT.out _ (HA.out.keep (lays_drew W2).bel) HX.out.drew).mono ?_
  rintro e w3 ⟨rfl, ha, hg3⟩
  have hgb : Hid (g ≠ b) := by have := hne.out; show _ ≠ _; omega
  replace HD := Lib.hid ((HD.out.keep (lays_drew W2).bel).gb hg3 hg)
  replace HA := Lib.hid ha
  replace HB := Lib.hid (gb_trans HB.out (gb_trans (gb_below (lays_drew W2).bel _) hg3))
  replace hS := Lib.hid (hS.out.gb hg3 (Ne.symm hgb.out) (by omega))
  clear ha hg3 HY HX HT
  refine hK _ _ hS.out ?_
  clear hK K
  have j0 := HD.out.2.2.c0
  have j1 := HD.out.2.2.c1
  have j2 := HD.out.2.2.c2
  have f0 := HD.out.2.2.free 0
  have f1 := HD.out.2.2.free 1
  have f2 := HD.out.2.2.free 2
  simp only at j0 j1 j2
  refine Sch.tree_e rfl rfl (fun K hK => ?_)
  go_wp2_with fail
  refine hK _ _ (hS.out.put3 (by have := hne.out; omega) _ _ _) ?_
  clear hK K
  refine Sch.tree_q rfl rfl (fun K hK => ?_)
  go_big_quiet_op
  refine hK _ ?_
  clear hK K
  refine Sch.tree_n ?_
  go_wp2_with fail
  (try simp only [Exit.inBlock, Exit.then])
  refine bodyPost_ret (v := .tuple #[av y, .bool true]) (results_does (HD.out.2.2.put y) rfl rfl) rfl ?_
  rw [HYe.out]
  exact ⟨rfl, HA.out.put3 (by omega) _ _ _, gb_put3 HB.out (by omega) _ _ _⟩
-- GEN
set_option maxRecDepth 100000 in
set_option maxHeartbeats 2000000 in
theorem does_ext (g : Nat) (x : Al) (n : Int) (w : World) (h : Am w g x) : Calls Try.prog 17 #[.pointer (some ⟨g, 0, none⟩), av x, .agg #[.int .i64 2, .int .i64 n]] w fun e w' => e = .returned (.tuple #[av (extA x (n)).1, .bool true]) ∧ Am w' g (extA x (n)).1 ∧ w.grownBy w' (some g) := by
  have HD := Lib.hid (dw_new w x (2, n) 23 36 23)
  have hb : Below w.heap.size w (((w.alloc (abox x 23)).alloc (.cells #[.int .i64 2, .int .i64 n] 36)).alloc (abox ⟨0, 0, 0⟩ 23)) := ((bel_box _ _).alloc (by simp) _).alloc (by simp; omega) _
  have HA := Lib.hid (h.keep hb)
  have HB := Lib.hid (gb_below hb (some g))
  have hg := h.1.lt
  clear h hb
  go_enter Try.func17, Try.ntmps17
  go_wp2_with fail
  have hW : (((w.alloc (abox x 23)).alloc (.cells #[.int .i64 2, .int .i64 n] 36)).alloc (abox ⟨0, 0, 0⟩ 23)).heap.size = w.heap.size + 1 + 1 + 1 := by simp
  generalize ((w.alloc _).alloc _).alloc _ = W at *
  refine (ext_ref x (n) W).mono ?_
  rintro e w1 ⟨rfl, hb⟩
  have hb2 := bel_box w1 (abox (extA x (n)).1 23)
  have HY := Lib.hid (a3_new w1 (extA x (n)).1 23)
  replace HD := Lib.hid ((HD.out.keep hb).keep hb2)
  replace HA := Lib.hid ((HA.out.keep hb).keep hb2)
  replace HB := Lib.hid (gb_trans (gb_trans HB.out (gb_below hb _)) (gb_below hb2 _))
  have hne : Hid (w.heap.size + 1 + 1 + 1 ≤ w1.heap.size) := by have := hb.size; show _ ≤ _; omega
  clear hb hb2
  have n1 := HD.out.2.1.2
  have HT := Lib.hid (fun w (h : Am w g x) => ext_all g x (n) w h)
  simp only at n1
  generalize hYe : extA x (n) = Y at *
  obtain ⟨y, no⟩ := Y
  have HYe := Lib.hid hYe
  have e1 : (no == no) = true := by simp
  clear hYe
  simp only at *
  go_wp2_with fail
  generalize w1.alloc (abox y 23) = W2 at *
  generalize w1.heap.size = b at *
  have hS : Hid (S1 b w.heap.size y n W2.drew) := ⟨HY.out.drewN 1, n1⟩
  clear n1
  refine Sch.wp_region_tree (S1 b w.heap.size y n) (.take 0 (.take 1 (.take 2 (.take 4 (.one 3 (.take 5 (.one 6 (.take 7 .done)))))))) (by kernel_rfl) (by kernel_rfl) hS.out ?_
  repeat (first
    | (refine Sch.tree_q rfl rfl (fun K hK => ?_); go_big_quiet_op; (first | refine hK _ ?_ | refine ⟨_, fun _ _ => rfl, hK _ ?_⟩); clear hK K)
    | (refine tree_load _ _ _ _ _ rfl rfl rfl rfl (by first | exact S1.la | exact S1.ln) rfl ?_; simp only [Act.put, List.setIfInBounds_toArray, List.set_cons_zero, List.set_cons_succ]))
  refine Sch.tree_e rfl rfl (fun K hK => ?_)
  go_wp2_with fail
  refine (HT.out _ (HA.out.keep (lays_drew W2).bel)).mono ?_
  rintro e w3 ⟨rfl, ha, hg3⟩
  have hgb : Hid (g ≠ b) := by have := hne.out; show _ ≠ _; omega
  replace HD := Lib.hid ((HD.out.keep (lays_drew W2).bel).gb hg3 hg)
  replace HA := Lib.hid ha
  replace HB := Lib.hid (gb_trans HB.out (gb_trans (gb_below (lays_drew W2).bel _) hg3))
  replace hS := Lib.hid (hS.out.gb hg3 (Ne.symm hgb.out) (by omega))
  clear ha hg3 HY HT
  refine hK _ _ hS.out ?_
  clear hK K
  have j0 := HD.out.2.2.c0
  have j1 := HD.out.2.2.c1
  have j2 := HD.out.2.2.c2
  have f0 := HD.out.2.2.free 0
  have f1 := HD.out.2.2.free 1
  have f2 := HD.out.2.2.free 2
  simp only at j0 j1 j2
  refine Sch.tree_q rfl rfl (fun K hK => ?_)
  go_big_quiet_op
  (first | refine hK _ ?_ | refine ⟨_, fun _ _ => rfl, hK _ ?_⟩)
  clear hK K
  refine Sch.tree_e rfl rfl (fun K hK => ?_)
  go_wp2_with fail
  refine hK _ _ (hS.out.put3 (by have := hne.out; omega) _ _ _) ?_
  clear hK K
  refine Sch.tree_q rfl rfl (fun K hK => ?_)
  go_big_quiet_op
  refine hK _ ?_
  clear hK K
  refine Sch.tree_n ?_
  go_wp2_with fail
  (try simp only [Exit.inBlock, Exit.then])
  refine bodyPost_ret (v := .tuple #[av y, .bool true]) (results_does (HD.out.2.2.put y) rfl rfl) rfl ?_
  rw [HYe.out]
  exact ⟨rfl, HA.out.put3 (by omega) _ _ _, gb_put3 HB.out (by omega) _ _ _⟩
set_option maxRecDepth 100000 in
set_option maxHeartbeats 2000000 in
theorem does_extBy (g : Nat) (x : Al) (n : Int) (w : World) (h : Am w g x) : Calls Try.prog 17 #[.pointer (some ⟨g, 0, none⟩), av x, .agg #[.int .i64 4, .int .i64 n]] w fun e w' => e = .returned (.tuple #[av (extA x (x.e + n.tmod 1000)).1, .bool true]) ∧ Am w' g (extA x (x.e + n.tmod 1000)).1 ∧ w.grownBy w' (some g) := by
  have HD := Lib.hid (dw_new w x (4, n) 23 36 23)
  have hb : Below w.heap.size w (((w.alloc (abox x 23)).alloc (.cells #[.int .i64 4, .int .i64 n] 36)).alloc (abox ⟨0, 0, 0⟩ 23)) := ((bel_box _ _).alloc (by simp) _).alloc (by simp; omega) _
  have HA := Lib.hid (h.keep hb)
  have HB := Lib.hid (gb_below hb (some g))
  have hg := h.1.lt
  have hv := h.2
  unfold Va at hv
  obtain ⟨v1, v2, v3, v4, v5⟩ := hv
  have hm : -1000 < n.tmod 1000 ∧ n.tmod 1000 < 1000 := ⟨by have := Int.tmod_lt_of_pos n (show (0 : Int) < 1000 by omega); have := Int.lt_tmod_of_pos n (show (0 : Int) < 1000 by omega); omega, Int.tmod_lt_of_pos n (by omega)⟩
  have hw : IntKind.i64.wrap (x.e + n.tmod 1000) = x.e + n.tmod 1000 := by simp [IntKind.wrap, IntKind.bits, IntKind.signed]; omega
  clear v1 v2 v3 v4 v5 hm
  clear h hb
  go_enter Try.func17, Try.ntmps17
  go_wp2_with fail
  have hW : (((w.alloc (abox x 23)).alloc (.cells #[.int .i64 4, .int .i64 n] 36)).alloc (abox ⟨0, 0, 0⟩ 23)).heap.size = w.heap.size + 1 + 1 + 1 := by simp
  generalize ((w.alloc _).alloc _).alloc _ = W at *
  refine (ext_ref x (x.e + n.tmod 1000) W).mono ?_
  rintro e w1 ⟨rfl, hb⟩
  have hb2 := bel_box w1 (abox (extA x (x.e + n.tmod 1000)).1 23)
  have HY := Lib.hid (a3_new w1 (extA x (x.e + n.tmod 1000)).1 23)
  replace HD := Lib.hid ((HD.out.keep hb).keep hb2)
  replace HA := Lib.hid ((HA.out.keep hb).keep hb2)
  replace HB := Lib.hid (gb_trans (gb_trans HB.out (gb_below hb _)) (gb_below hb2 _))
  have hne : Hid (w.heap.size + 1 + 1 + 1 ≤ w1.heap.size) := by have := hb.size; show _ ≤ _; omega
  clear hb hb2
  have n1 := HD.out.2.1.2
  have HT := Lib.hid (fun w (h : Am w g x) => ext_all g x (x.e + n.tmod 1000) w h)
  simp only at n1
  generalize hYe : extA x (x.e + n.tmod 1000) = Y at *
  obtain ⟨y, no⟩ := Y
  have HYe := Lib.hid hYe
  have e1 : (no == no) = true := by simp
  clear hYe
  simp only at *
  go_wp2_with fail
  generalize w1.alloc (abox y 23) = W2 at *
  generalize w1.heap.size = b at *
  have hS : Hid (S1 b w.heap.size y n W2.drew) := ⟨HY.out.drewN 1, n1⟩
  clear n1
  refine Sch.wp_region_tree (S1 b w.heap.size y n) (.take 0 (.take 1 (.take 2 (.take 4 (.one 3 (.take 5 (.one 6 (.take 7 .done)))))))) (by kernel_rfl) (by kernel_rfl) hS.out ?_
  repeat (first
    | (refine Sch.tree_q rfl rfl (fun K hK => ?_); go_big_quiet_op; (first | refine hK _ ?_ | refine ⟨_, fun _ _ => rfl, hK _ ?_⟩); clear hK K)
    | (refine tree_load _ _ _ _ _ rfl rfl rfl rfl (by first | exact S1.la | exact S1.ln) rfl ?_; simp only [Act.put, List.setIfInBounds_toArray, List.set_cons_zero, List.set_cons_succ]))
  refine Sch.tree_e rfl rfl (fun K hK => ?_)
  go_wp2_with fail
  refine (HT.out _ (HA.out.keep (lays_drew W2).bel)).mono ?_
  rintro e w3 ⟨rfl, ha, hg3⟩
  have hgb : Hid (g ≠ b) := by have := hne.out; show _ ≠ _; omega
  replace HD := Lib.hid ((HD.out.keep (lays_drew W2).bel).gb hg3 hg)
  replace HA := Lib.hid ha
  replace HB := Lib.hid (gb_trans HB.out (gb_trans (gb_below (lays_drew W2).bel _) hg3))
  replace hS := Lib.hid (hS.out.gb hg3 (Ne.symm hgb.out) (by omega))
  clear ha hg3 HY HT
  refine hK _ _ hS.out ?_
  clear hK K
  have j0 := HD.out.2.2.c0
  have j1 := HD.out.2.2.c1
  have j2 := HD.out.2.2.c2
  have f0 := HD.out.2.2.free 0
  have f1 := HD.out.2.2.free 1
  have f2 := HD.out.2.2.free 2
  simp only at j0 j1 j2
  refine Sch.tree_q rfl rfl (fun K hK => ?_)
  go_big_quiet_op
  (first | refine hK _ ?_ | refine ⟨_, fun _ _ => rfl, hK _ ?_⟩)
  clear hK K
  refine Sch.tree_e rfl rfl (fun K hK => ?_)
  go_wp2_with fail
  refine hK _ _ (hS.out.put3 (by have := hne.out; omega) _ _ _) ?_
  clear hK K
  refine Sch.tree_q rfl rfl (fun K hK => ?_)
  go_big_quiet_op
  refine hK _ ?_
  clear hK K
  refine Sch.tree_n ?_
  go_wp2_with fail
  (try simp only [Exit.inBlock, Exit.then])
  refine bodyPost_ret (v := .tuple #[av y, .bool true]) (results_does (HD.out.2.2.put y) rfl rfl) rfl ?_
  rw [HYe.out]
  exact ⟨rfl, HA.out.put3 (by omega) _ _ _, gb_put3 HB.out (by omega) _ _ _⟩
set_option maxRecDepth 100000 in
set_option maxHeartbeats 2000000 in
theorem does_pass (g : Nat) (x : Al) (n : Int) (w : World) (h : Am w g x) : Calls Try.prog 17 #[.pointer (some ⟨g, 0, none⟩), av x, .agg #[.int .i64 3, .int .i64 n]] w fun e w' => e = .returned (.tuple #[av (passA x (n)).1, .bool true]) ∧ Am w' g (passA x (n)).1 ∧ w.grownBy w' (some g) := by
  have HD := Lib.hid (dw_new w x (3, n) 23 36 23)
  have hb : Below w.heap.size w (((w.alloc (abox x 23)).alloc (.cells #[.int .i64 3, .int .i64 n] 36)).alloc (abox ⟨0, 0, 0⟩ 23)) := ((bel_box _ _).alloc (by simp) _).alloc (by simp; omega) _
  have HA := Lib.hid (h.keep hb)
  have HB := Lib.hid (gb_below hb (some g))
  have hg := h.1.lt
  clear h hb
  go_enter Try.func17, Try.ntmps17
  go_wp2_with fail
  have hW : (((w.alloc (abox x 23)).alloc (.cells #[.int .i64 3, .int .i64 n] 36)).alloc (abox ⟨0, 0, 0⟩ 23)).heap.size = w.heap.size + 1 + 1 + 1 := by simp
  generalize ((w.alloc _).alloc _).alloc _ = W at *
  refine (pass_ref x (n) W).mono ?_
  rintro e w1 ⟨rfl, hb⟩
  have hb2 := bel_box w1 (abox (passA x (n)).1 23)
  have HY := Lib.hid (a3_new w1 (passA x (n)).1 23)
  replace HD := Lib.hid ((HD.out.keep hb).keep hb2)
  replace HA := Lib.hid ((HA.out.keep hb).keep hb2)
  replace HB := Lib.hid (gb_trans (gb_trans HB.out (gb_below hb _)) (gb_below hb2 _))
  have hne : Hid (w.heap.size + 1 + 1 + 1 ≤ w1.heap.size) := by have := hb.size; show _ ≤ _; omega
  clear hb hb2
  have n1 := HD.out.2.1.2
  have HT := Lib.hid (fun w (h : Am w g x) => pass_all g x (n) w h)
  simp only at n1
  generalize hYe : passA x (n) = Y at *
  obtain ⟨y, no⟩ := Y
  have HYe := Lib.hid hYe
  have e1 : (no == no) = true := by simp
  clear hYe
  simp only at *
  go_wp2_with fail
  generalize w1.alloc (abox y 23) = W2 at *
  generalize w1.heap.size = b at *
  have hS : Hid (S1 b w.heap.size y n W2.drew) := ⟨HY.out.drewN 1, n1⟩
  clear n1
  refine Sch.wp_region_tree (S1 b w.heap.size y n) (.take 0 (.take 1 (.take 2 (.take 4 (.one 3 (.take 5 (.one 6 (.take 7 .done)))))))) (by kernel_rfl) (by kernel_rfl) hS.out ?_
  repeat (first
    | (refine Sch.tree_q rfl rfl (fun K hK => ?_); go_big_quiet_op; (first | refine hK _ ?_ | refine ⟨_, fun _ _ => rfl, hK _ ?_⟩); clear hK K)
    | (refine tree_load _ _ _ _ _ rfl rfl rfl rfl (by first | exact S1.la | exact S1.ln) rfl ?_; simp only [Act.put, List.setIfInBounds_toArray, List.set_cons_zero, List.set_cons_succ]))
  refine Sch.tree_e rfl rfl (fun K hK => ?_)
  go_wp2_with fail
  refine (HT.out _ (HA.out.keep (lays_drew W2).bel)).mono ?_
  rintro e w3 ⟨rfl, ha, hg3⟩
  have hgb : Hid (g ≠ b) := by have := hne.out; show _ ≠ _; omega
  replace HD := Lib.hid ((HD.out.keep (lays_drew W2).bel).gb hg3 hg)
  replace HA := Lib.hid ha
  replace HB := Lib.hid (gb_trans HB.out (gb_trans (gb_below (lays_drew W2).bel _) hg3))
  replace hS := Lib.hid (hS.out.gb hg3 (Ne.symm hgb.out) (by omega))
  clear ha hg3 HY HT
  refine hK _ _ hS.out ?_
  clear hK K
  have j0 := HD.out.2.2.c0
  have j1 := HD.out.2.2.c1
  have j2 := HD.out.2.2.c2
  have f0 := HD.out.2.2.free 0
  have f1 := HD.out.2.2.free 1
  have f2 := HD.out.2.2.free 2
  simp only at j0 j1 j2
  refine Sch.tree_q rfl rfl (fun K hK => ?_)
  go_big_quiet_op
  (first | refine hK _ ?_ | refine ⟨_, fun _ _ => rfl, hK _ ?_⟩)
  clear hK K
  refine Sch.tree_e rfl rfl (fun K hK => ?_)
  go_wp2_with fail
  refine hK _ _ (hS.out.put3 (by have := hne.out; omega) _ _ _) ?_
  clear hK K
  refine Sch.tree_q rfl rfl (fun K hK => ?_)
  go_big_quiet_op
  refine hK _ ?_
  clear hK K
  refine Sch.tree_n ?_
  go_wp2_with fail
  (try simp only [Exit.inBlock, Exit.then])
  refine bodyPost_ret (v := .tuple #[av y, .bool true]) (results_does (HD.out.2.2.put y) rfl rfl) rfl ?_
  rw [HYe.out]
  exact ⟨rfl, HA.out.put3 (by omega) _ _ _, gb_put3 HB.out (by omega) _ _ _⟩
set_option maxRecDepth 100000 in
set_option maxHeartbeats 2000000 in
theorem does_passBy (g : Nat) (x : Al) (n : Int) (w : World) (h : Am w g x) : Calls Try.prog 17 #[.pointer (some ⟨g, 0, none⟩), av x, .agg #[.int .i64 5, .int .i64 n]] w fun e w' => e = .returned (.tuple #[av (passA x (x.l + n.tmod 1000)).1, .bool true]) ∧ Am w' g (passA x (x.l + n.tmod 1000)).1 ∧ w.grownBy w' (some g) := by
  have HD := Lib.hid (dw_new w x (5, n) 23 36 23)
  have hb : Below w.heap.size w (((w.alloc (abox x 23)).alloc (.cells #[.int .i64 5, .int .i64 n] 36)).alloc (abox ⟨0, 0, 0⟩ 23)) := ((bel_box _ _).alloc (by simp) _).alloc (by simp; omega) _
  have HA := Lib.hid (h.keep hb)
  have HB := Lib.hid (gb_below hb (some g))
  have hg := h.1.lt
  have hv := h.2
  unfold Va at hv
  obtain ⟨v1, v2, v3, v4, v5⟩ := hv
  have hm : -1000 < n.tmod 1000 ∧ n.tmod 1000 < 1000 := ⟨by have := Int.tmod_lt_of_pos n (show (0 : Int) < 1000 by omega); have := Int.lt_tmod_of_pos n (show (0 : Int) < 1000 by omega); omega, Int.tmod_lt_of_pos n (by omega)⟩
  have hw : IntKind.i64.wrap (x.l + n.tmod 1000) = x.l + n.tmod 1000 := by simp [IntKind.wrap, IntKind.bits, IntKind.signed]; omega
  clear v1 v2 v3 v4 v5 hm
  clear h hb
  go_enter Try.func17, Try.ntmps17
  go_wp2_with fail
  have hW : (((w.alloc (abox x 23)).alloc (.cells #[.int .i64 5, .int .i64 n] 36)).alloc (abox ⟨0, 0, 0⟩ 23)).heap.size = w.heap.size + 1 + 1 + 1 := by simp
  generalize ((w.alloc _).alloc _).alloc _ = W at *
  refine (pass_ref x (x.l + n.tmod 1000) W).mono ?_
  rintro e w1 ⟨rfl, hb⟩
  have hb2 := bel_box w1 (abox (passA x (x.l + n.tmod 1000)).1 23)
  have HY := Lib.hid (a3_new w1 (passA x (x.l + n.tmod 1000)).1 23)
  replace HD := Lib.hid ((HD.out.keep hb).keep hb2)
  replace HA := Lib.hid ((HA.out.keep hb).keep hb2)
  replace HB := Lib.hid (gb_trans (gb_trans HB.out (gb_below hb _)) (gb_below hb2 _))
  have hne : Hid (w.heap.size + 1 + 1 + 1 ≤ w1.heap.size) := by have := hb.size; show _ ≤ _; omega
  clear hb hb2
  have n1 := HD.out.2.1.2
  have HT := Lib.hid (fun w (h : Am w g x) => pass_all g x (x.l + n.tmod 1000) w h)
  simp only at n1
  generalize hYe : passA x (x.l + n.tmod 1000) = Y at *
  obtain ⟨y, no⟩ := Y
  have HYe := Lib.hid hYe
  have e1 : (no == no) = true := by simp
  clear hYe
  simp only at *
  go_wp2_with fail
  generalize w1.alloc (abox y 23) = W2 at *
  generalize w1.heap.size = b at *
  have hS : Hid (S1 b w.heap.size y n W2.drew) := ⟨HY.out.drewN 1, n1⟩
  clear n1
  refine Sch.wp_region_tree (S1 b w.heap.size y n) (.take 0 (.take 1 (.take 2 (.take 4 (.one 3 (.take 5 (.one 6 (.take 7 .done)))))))) (by kernel_rfl) (by kernel_rfl) hS.out ?_
  repeat (first
    | (refine Sch.tree_q rfl rfl (fun K hK => ?_); go_big_quiet_op; (first | refine hK _ ?_ | refine ⟨_, fun _ _ => rfl, hK _ ?_⟩); clear hK K)
    | (refine tree_load _ _ _ _ _ rfl rfl rfl rfl (by first | exact S1.la | exact S1.ln) rfl ?_; simp only [Act.put, List.setIfInBounds_toArray, List.set_cons_zero, List.set_cons_succ]))
  refine Sch.tree_e rfl rfl (fun K hK => ?_)
  go_wp2_with fail
  refine (HT.out _ (HA.out.keep (lays_drew W2).bel)).mono ?_
  rintro e w3 ⟨rfl, ha, hg3⟩
  have hgb : Hid (g ≠ b) := by have := hne.out; show _ ≠ _; omega
  replace HD := Lib.hid ((HD.out.keep (lays_drew W2).bel).gb hg3 hg)
  replace HA := Lib.hid ha
  replace HB := Lib.hid (gb_trans HB.out (gb_trans (gb_below (lays_drew W2).bel _) hg3))
  replace hS := Lib.hid (hS.out.gb hg3 (Ne.symm hgb.out) (by omega))
  clear ha hg3 HY HT
  refine hK _ _ hS.out ?_
  clear hK K
  have j0 := HD.out.2.2.c0
  have j1 := HD.out.2.2.c1
  have j2 := HD.out.2.2.c2
  have f0 := HD.out.2.2.free 0
  have f1 := HD.out.2.2.free 1
  have f2 := HD.out.2.2.free 2
  simp only at j0 j1 j2
  refine Sch.tree_q rfl rfl (fun K hK => ?_)
  go_big_quiet_op
  (first | refine hK _ ?_ | refine ⟨_, fun _ _ => rfl, hK _ ?_⟩)
  clear hK K
  refine Sch.tree_e rfl rfl (fun K hK => ?_)
  go_wp2_with fail
  refine hK _ _ (hS.out.put3 (by have := hne.out; omega) _ _ _) ?_
  clear hK K
  refine Sch.tree_q rfl rfl (fun K hK => ?_)
  go_big_quiet_op
  refine hK _ ?_
  clear hK K
  refine Sch.tree_n ?_
  go_wp2_with fail
  (try simp only [Exit.inBlock, Exit.then])
  refine bodyPost_ret (v := .tuple #[av y, .bool true]) (results_does (HD.out.2.2.put y) rfl rfl) rfl ?_
  rw [HYe.out]
  exact ⟨rfl, HA.out.put3 (by omega) _ _ _, gb_put3 HB.out (by omega) _ _ _⟩
end Go.Proofs.Ytkbbbjcigjlopaa.H
