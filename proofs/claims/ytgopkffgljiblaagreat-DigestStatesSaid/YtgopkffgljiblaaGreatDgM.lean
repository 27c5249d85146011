/-
  Layer 16: the reference's Merge; Equal of the program.
-/
import Derived.Test.YtgopkffgljiblaaGreatDgH
namespace Go.Proofs.YtgopkffgljiblaaGreat.Dg
set_option linter.unusedVariables false
open Go.RowKit V Go.Sort D Nd Qs Jn
open E (SV getV)
open F (Ct cv cbox Bc Apt)
attribute [local irreducible] Sch.heldN Sch.stepV Sch.stepE

theorem Gb.gb {w w' : World} {g r : Nat} {x y u v : Value} (h : Gb w g x y u v) (hg : w.grownBy w' (some r)) (hne : g ≠ r) : Gb w' g x y u v := by
  have e : w'.heap[g]? = w.heap[g]? := hg.block g (lt_of_cell h.1.1) (by simpa using hne)
  exact ⟨⟨(World.cell?_of_block (a := ⟨g, 0, none⟩) e).trans h.1.1, (World.cell?_of_block (a := ⟨g, 1, none⟩) e).trans h.1.2⟩, (World.cell?_of_block (a := ⟨g, 2, none⟩) e).trans h.2.1, (World.cell?_of_block (a := ⟨g, 3, none⟩) e).trans h.2.2⟩
/-- Two digests' boxes. -/
def Tg (g g2 : Nat) (x y u v s t o q : Value) (w : World) : Prop := Gb w g x y u v ∧ Gb w g2 s t o q
section
variable {g g2 : Nat} {x y u v s t o q : Value}
theorem Tg.keep {w w' : World} (h : Tg g g2 x y u v s t o q w) (hb : Below w.heap.size w w') : Tg g g2 x y u v s t o q w' := ⟨h.1.keep hb, h.2.keep hb⟩
theorem Tg.a1 : ∀ w, Tg g g2 x y u v s t o q w → (Instr.loadAt 25 (.pointer (some ⟨g, 0, none⟩))).run Tryz.prog w = .ok (cv x y) w := fun w h => F.load_ctx h.1.1
theorem Tg.b1 : ∀ w, Tg g g2 x y u v s t o q w → (Instr.loadAt 25 (.pointer (some ⟨g2, 0, none⟩))).run Tryz.prog w = .ok (cv s t) w := fun w h => F.load_ctx h.2.1
theorem Tg.a2 : ∀ w, Tg g g2 x y u v s t o q w → (Instr.loadAt 25 (.pointer (some ⟨g, 2, none⟩))).run Tryz.prog w = .ok (cv u v) w := fun w h => by
  have h0 := h.1.2.1
  have h1 := h.1.2.2
  go_simp
theorem Tg.b2 : ∀ w, Tg g g2 x y u v s t o q w → (Instr.loadAt 25 (.pointer (some ⟨g2, 2, none⟩))).run Tryz.prog w = .ok (cv o q) w := fun w h => by
  have h0 := h.2.2.1
  have h1 := h.2.2.2
  go_simp
end
set_option maxRecDepth 100000 in
set_option maxHeartbeats 8000000 in
theorem gmergeR_ref (d e : Gt) (hd : validG d = true) (he : validG e = true) (x y u v s t o q : Value) (w : World) (h : Gx w x y u v d) (h2 : Gx w s t o q e) (hl : GL 1000 d) (hm : GL 1000 e) :
    Calls Tryz.prog 14 #[gv x y u v, gv s t o q] w fun e' w' => ∃ x' y' u' v', e' = .returned (gv x' y' u' v') ∧ Og w' w.heap.size x' y' u' v' (mergeG d e) ∧ Below w.heap.size w w' := by
  obtain ⟨p1, p2, -⟩ := valid_parts hd
  obtain ⟨q1, q2, -⟩ := valid_parts he
  have HE : Hid (mergeG d e = (F.unionC d.1 e.1, F.unionC d.2 e.2)) := rfl
  have HU1 := Lib.hid (fun w (h : Gx w x y u v d) (h2 : Gx w s t o q e) => unionR_ref d.1 e.1 p1 q1 x y s t w h.1 h2.1 hl.1 hm.1)
  have HU2 := Lib.hid (fun w (h : Gx w x y u v d) (h2 : Gx w s t o q e) => unionR_ref d.2 e.2 p2 q2 u v o q w h.2 h2.2 hl.2 hm.2)
  have HG0 := Lib.hid h
  have HH0 := Lib.hid h2
  obtain ⟨⟨⟨a1, n1, rfl, -⟩, a2, n2, rfl, -⟩, ⟨a3, n3, rfl, -⟩, a4, n4, rfl, -⟩ := h
  obtain ⟨⟨⟨a5, n5, rfl, -⟩, a6, n6, rfl, -⟩, ⟨a7, n7, rfl, -⟩, a8, n8, rfl, -⟩ := h2
  have hb0 := bel_box w (gbox (.slice a1 d.1.1.length n1) (.slice a2 d.1.2.length n2) (.slice a3 d.2.1.length n3) (.slice a4 d.2.2.length n4))
  have hsz : (w.alloc (gbox (.slice a1 d.1.1.length n1) (.slice a2 d.1.2.length n2) (.slice a3 d.2.1.length n3) (.slice a4 d.2.2.length n4))).heap.size = w.heap.size + 1 := by simp
  have HT0 := four_new w (.slice a1 d.1.1.length n1) (.slice a2 d.1.2.length n2) (.slice a3 d.2.1.length n3) (.slice a4 d.2.2.length n4)
  have hb1 := bel_box (w.alloc (gbox (.slice a1 d.1.1.length n1) (.slice a2 d.1.2.length n2) (.slice a3 d.2.1.length n3) (.slice a4 d.2.2.length n4))) (gbox (.slice a5 e.1.1.length n5) (.slice a6 e.1.2.length n6) (.slice a7 e.2.1.length n7) (.slice a8 e.2.2.length n8))
  have hS := four_new (w.alloc (gbox (.slice a1 d.1.1.length n1) (.slice a2 d.1.2.length n2) (.slice a3 d.2.1.length n3) (.slice a4 d.2.2.length n4))) (.slice a5 e.1.1.length n5) (.slice a6 e.1.2.length n6) (.slice a7 e.2.1.length n7) (.slice a8 e.2.2.length n8)
  rw [hsz] at hS
  have HK := Lib.hid (show Tg w.heap.size (w.heap.size + 1) (.slice a1 d.1.1.length n1) (.slice a2 d.1.2.length n2) (.slice a3 d.2.1.length n3) (.slice a4 d.2.2.length n4) (.slice a5 e.1.1.length n5) (.slice a6 e.1.2.length n6) (.slice a7 e.2.1.length n7) (.slice a8 e.2.2.length n8) ((w.alloc (gbox (.slice a1 d.1.1.length n1) (.slice a2 d.1.2.length n2) (.slice a3 d.2.1.length n3) (.slice a4 d.2.2.length n4))).alloc (gbox (.slice a5 e.1.1.length n5) (.slice a6 e.1.2.length n6) (.slice a7 e.2.1.length n7) (.slice a8 e.2.2.length n8))) from ⟨HT0.keep hb1, hS⟩)
  have HB := bel_tr (Lib.hid hb0) hb1
  have hsz2 : ((w.alloc (gbox (.slice a1 d.1.1.length n1) (.slice a2 d.1.2.length n2) (.slice a3 d.2.1.length n3) (.slice a4 d.2.2.length n4))).alloc (gbox (.slice a5 e.1.1.length n5) (.slice a6 e.1.2.length n6) (.slice a7 e.2.1.length n7) (.slice a8 e.2.2.length n8))).heap.size = w.heap.size + 1 + 1 := by simp
  have HW := Lib.hid (wg_new ((w.alloc (gbox (.slice a1 d.1.1.length n1) (.slice a2 d.1.2.length n2) (.slice a3 d.2.1.length n3) (.slice a4 d.2.2.length n4))).alloc (gbox (.slice a5 e.1.1.length n5) (.slice a6 e.1.2.length n6) (.slice a7 e.2.1.length n7) (.slice a8 e.2.2.length n8))))
  rw [hsz2] at HW
  have hb := bel_box ((w.alloc (gbox (.slice a1 d.1.1.length n1) (.slice a2 d.1.2.length n2) (.slice a3 d.2.1.length n3) (.slice a4 d.2.2.length n4))).alloc (gbox (.slice a5 e.1.1.length n5) (.slice a6 e.1.2.length n6) (.slice a7 e.2.1.length n7) (.slice a8 e.2.2.length n8))) (gbox (.slice none 0 0) (.slice none 0 0) (.slice none 0 0) (.slice none 0 0))
  replace HK := Lib.hid (HK.out.keep hb)
  replace HB := bel_tr HB hb
  have HG := Lib.hid (HG0.out.keep HB.out)
  have HH := Lib.hid (HH0.out.keep HB.out)
  clear hl hm HG0 HH0 hb0 hb1 HT0 hS hsz hsz2 hb p1 p2 q1 q2 hd he
  generalize mergeG d e = R at *
  generalize F.unionC d.1 e.1 = M1 at *
  generalize F.unionC d.2 e.2 = M2 at *
  go_enter Tryz.func14, Tryz.ntmps14
  go_upto_region 1 with fail
  generalize ((w.alloc (gbox (.slice a1 d.1.1.length n1) (.slice a2 d.1.2.length n2) (.slice a3 d.2.1.length n3) (.slice a4 d.2.2.length n4))).alloc (gbox (.slice a5 e.1.1.length n5) (.slice a6 e.1.2.length n6) (.slice a7 e.2.1.length n7) (.slice a8 e.2.2.length n8))).alloc (gbox (.slice none 0 0) (.slice none 0 0) (.slice none 0 0) (.slice none 0 0)) = w1 at *
  have hd := (Below.refl w1.heap.size w1).drew
  replace HK := Lib.hid (HK.out.keep hd)
  replace HW := Lib.hid (HW.out.keep hd)
  replace HB := bel_tr HB hd
  replace HG := Lib.hid (HG.out.keep hd)
  replace HH := Lib.hid (HH.out.keep hd)
  clear hd
  go_wp2_with fail
  refine Sch.wp_region_tn (Tg w.heap.size (w.heap.size + 1) (.slice a1 d.1.1.length n1) (.slice a2 d.1.2.length n2) (.slice a3 d.2.1.length n3) (.slice a4 d.2.2.length n4) (.slice a5 e.1.1.length n5) (.slice a6 e.1.2.length n6) (.slice a7 e.2.1.length n7) (.slice a8 e.2.2.length n8)) (.val 0 (.val 1 (.val 2 (.val 3 (.val 5 (.val 6 (.val 7 (.val 8 (.one 4 (.one 9 (.val 10 (.one 11 .done)))))))))))) (by kernel_rfl) (by kernel_rfl) HK.out ?_
  repeat (first
    | (refine Sch.tn_q rfl rfl rfl (fun K hK => ?_); go_big_quiet_op; (first | refine hK _ ?_ | refine ⟨_, fun _ _ => rfl, hK _ ?_⟩); clear hK K)
    | (refine Sch.tn_chk _ _ _ rfl rfl rfl rfl rfl ?_; simp only [Act.put, List.setIfInBounds_toArray, List.set_cons_zero, List.set_cons_succ])
    | (refine Sch.tn_load _ _ _ _ _ rfl rfl rfl rfl (by first | exact Tg.a1 | exact Tg.b1 | exact Tg.a2 | exact Tg.b2) rfl ?_; simp only [Act.put, List.setIfInBounds_toArray, List.set_cons_zero, List.set_cons_succ]))
  generalize w1.drew = w2 at *
  have HBs : Hid (w.heap.size + 1 + 1 + 1 ≤ w2.heap.size) := by have := HW.out.lt; show _ ≤ _; omega
  refine Sch.tn_e rfl rfl (fun K hK => ?_)
  go_wp2_with fail
  refine (HU1.out _ HG.out HH.out).mono ?_
  rintro e' w3 ⟨x', y', rfl, ho, hb⟩
  have HO1 := Lib.hid (ho.mono HBs.out)
  obtain ⟨p1, i1, p2, i2, rfl, rfl⟩ := HO1.out.shape
  replace HK := Lib.hid (HK.out.keep hb)
  replace HW := Lib.hid (HW.out.keep hb)
  replace HB := bel_tr HB hb
  replace HG := Lib.hid (HG.out.keep hb)
  replace HH := Lib.hid (HH.out.keep hb)
  replace HBs := Lib.hid (Nat.le_trans HBs.out hb.size)
  clear hb ho HU1
  refine hK _ _ HK.out ?_
  clear hK K
  refine Sch.tn_e rfl rfl (fun K hK => ?_)
  go_wp2_with fail
  refine (HU2.out _ HG.out HH.out).mono ?_
  rintro e' w4 ⟨x', y', rfl, ho, hb⟩
  have HO2 := Lib.hid (ho.mono HBs.out)
  obtain ⟨p3, i3, p4, i4, rfl, rfl⟩ := HO2.out.shape
  replace HK := Lib.hid (HK.out.keep hb)
  replace HW := Lib.hid (HW.out.keep hb)
  replace HB := bel_tr HB hb
  replace HO1 := Lib.hid (HO1.out.below hb)
  clear hb ho HU2 HG HH
  refine hK _ _ HK.out ?_
  clear hK K
  repeat (first
    | (refine Sch.tn_q rfl rfl rfl (fun K hK => ?_); go_big_quiet_op; (first | refine hK _ ?_ | refine ⟨_, fun _ _ => rfl, hK _ ?_⟩); clear hK K)
    | (refine Sch.tn_chk _ _ _ rfl rfl rfl rfl rfl ?_; simp only [Act.put, List.setIfInBounds_toArray, List.set_cons_zero, List.set_cons_succ]))
  obtain ⟨⟨u0, r0⟩, f0⟩ := HW.out 0 (by omega)
  obtain ⟨⟨u1, r1⟩, f1⟩ := HW.out 1 (by omega)
  obtain ⟨⟨u2, r2⟩, f2⟩ := HW.out 2 (by omega)
  obtain ⟨⟨u3, r3⟩, f3⟩ := HW.out 3 (by omega)
  have HP := Lib.hid (put_four (x := .slice p1 M1.1.length i1) (y := .slice p2 M1.2.length i2) (u := .slice p3 M2.1.length i3) (v := .slice p4 M2.2.length i4) HW.out)
  have HO3 : Hid (Og ((((w4.setCell ⟨w.heap.size + 1 + 1, 0, none⟩ (.slice p1 M1.1.length i1)).setCell ⟨w.heap.size + 1 + 1, 1, none⟩ (.slice p2 M1.2.length i2)).setCell ⟨w.heap.size + 1 + 1, 2, none⟩ (.slice p3 M2.1.length i3)).setCell ⟨w.heap.size + 1 + 1, 3, none⟩ (.slice p4 M2.2.length i4)) w.heap.size (.slice p1 M1.1.length i1) (.slice p2 M1.2.length i2) (.slice p3 M2.1.length i3) (.slice p4 M2.2.length i4) (M1, M2)) := ⟨(Ov.put4 HO1.out (Nat.lt_succ_self _)).mono (by omega), (Ov.put4 HO2.out (Nat.lt_succ_self _)).mono (by omega)⟩
  have HB4 := Lib.hid (below_put4 (g := w.heap.size + 1 + 1) (x := .slice p1 M1.1.length i1) (y := .slice p2 M1.2.length i2) (u := .slice p3 M2.1.length i3) (v := .slice p4 M2.2.length i4) HB.out (by omega))
  have hgb : w4.grownBy ((((w4.setCell ⟨w.heap.size + 1 + 1, 0, none⟩ (.slice p1 M1.1.length i1)).setCell ⟨w.heap.size + 1 + 1, 1, none⟩ (.slice p2 M1.2.length i2)).setCell ⟨w.heap.size + 1 + 1, 2, none⟩ (.slice p3 M2.1.length i3)).setCell ⟨w.heap.size + 1 + 1, 3, none⟩ (.slice p4 M2.2.length i4)) (some (w.heap.size + 1 + 1)) := gb_trans (gb_trans (gb_trans (gb_setCell _ _ _ _) (gb_setCell _ _ _ _)) (gb_setCell _ _ _ _)) (gb_setCell _ _ _ _)
  have HK4 : Hid (Tg w.heap.size (w.heap.size + 1) (.slice a1 d.1.1.length n1) (.slice a2 d.1.2.length n2) (.slice a3 d.2.1.length n3) (.slice a4 d.2.2.length n4) (.slice a5 e.1.1.length n5) (.slice a6 e.1.2.length n6) (.slice a7 e.2.1.length n7) (.slice a8 e.2.2.length n8) ((((w4.setCell ⟨w.heap.size + 1 + 1, 0, none⟩ (.slice p1 M1.1.length i1)).setCell ⟨w.heap.size + 1 + 1, 1, none⟩ (.slice p2 M1.2.length i2)).setCell ⟨w.heap.size + 1 + 1, 2, none⟩ (.slice p3 M2.1.length i3)).setCell ⟨w.heap.size + 1 + 1, 3, none⟩ (.slice p4 M2.2.length i4))) := Lib.hid ⟨HK.out.1.gb hgb (by omega), HK.out.2.gb hgb (by omega)⟩
  clear hgb
  have hE := HE.out
  subst hE
  clear HE
  refine Sch.tn_e rfl rfl (fun K hK => ?_)
  go_wp2_with fail
  refine hK _ _ HK4.out ?_
  clear hK K
  refine Sch.tn_n ?_
  generalize (((w4.setCell ⟨w.heap.size + 1 + 1, 0, none⟩ (.slice p1 M1.1.length i1)).setCell ⟨w.heap.size + 1 + 1, 1, none⟩ (.slice p2 M1.2.length i2)).setCell ⟨w.heap.size + 1 + 1, 2, none⟩ (.slice p3 M2.1.length i3)).setCell ⟨w.heap.size + 1 + 1, 3, none⟩ (.slice p4 M2.2.length i4) = W at *
  have q0 := HP.out.1.1
  have q1 := HP.out.1.2
  have q2 := HP.out.2.1
  have q3 := HP.out.2.2
  clear r0 r1 r2 r3 f0 f1 f2 f3
  go_wp2_with fail
  (try simp only [Exit.inBlock, Exit.then])
  refine bodyPost_ret (v := gv (.slice p1 M1.1.length i1) (.slice p2 M1.2.length i2) (.slice p3 M2.1.length i3) (.slice p4 M2.2.length i4)) (by rw [results_cell1 (fn := Tryz.f14) (p := 4) (ty := 27) rfl]; go_simp) rfl ?_
  exact ⟨_, _, _, _, rfl, HO3.out, HB4.out⟩
theorem equal_kx (A B : Ct) (x y u v : Value) (w : World) (h : Kx w x y A) (h2 : Kx w u v B) (hl : KL 1000000 A) (hl2 : KL 1000000 B) :
    Calls Tryz.prog 30 #[cv x y, cv u v] w fun e w' => e = .returned (.bool (decide (A = B))) ∧ Below w.heap.size w w' := by
  obtain ⟨⟨a, n, rfl, ha, -, -⟩, b, m, rfl, hb, -, -⟩ := h
  obtain ⟨⟨p, j, rfl, hp, -, -⟩, q, k, rfl, hq, -, -⟩ := h2
  exact F.equal_any A.1 A.2 B.1 B.2 a b p q n m j k w ha hb hp hq hl.1 hl.2 hl2.1 hl2.2
set_option maxRecDepth 100000 in
set_option maxHeartbeats 4000000 in
theorem gequal_any (d e : Gt) (x y u v s t o q : Value) (w : World) (h : Gx w x y u v d) (h2 : Gx w s t o q e) (hl : GL 1000000 d) (hm : GL 1000000 e) :
    Calls Tryz.prog 10 #[gv x y u v, gv s t o q] w fun e' w' => e' = .returned (.bool (decide (d = e))) ∧ Below w.heap.size w w' := by
  have HV1 := Lib.hid (fun w (h : Gx w x y u v d) (h2 : Gx w s t o q e) => equal_kx d.1 e.1 x y s t w h.1 h2.1 hl.1 hm.1)
  have HV2 := Lib.hid (fun w (h : Gx w x y u v d) (h2 : Gx w s t o q e) => equal_kx d.2 e.2 u v o q w h.2 h2.2 hl.2 hm.2)
  have HE : Hid (decide (d = e) = (decide (d.1 = e.1) && decide (d.2 = e.2))) := by
    show _ = _
    rw [Bool.eq_iff_iff, decide_eq_true_eq, Bool.and_eq_true, decide_eq_true_eq, decide_eq_true_eq]
    exact ⟨fun h => by rw [h]; exact ⟨rfl, rfl⟩, fun h => Prod.ext h.1 h.2⟩
  have HG0 := Lib.hid h
  have HH0 := Lib.hid h2
  obtain ⟨⟨⟨a1, n1, rfl, -⟩, a2, n2, rfl, -⟩, ⟨a3, n3, rfl, -⟩, a4, n4, rfl, -⟩ := h
  obtain ⟨⟨⟨a5, n5, rfl, -⟩, a6, n6, rfl, -⟩, ⟨a7, n7, rfl, -⟩, a8, n8, rfl, -⟩ := h2
  have hb0 := bel_box w (gbox (.slice a1 d.1.1.length n1) (.slice a2 d.1.2.length n2) (.slice a3 d.2.1.length n3) (.slice a4 d.2.2.length n4))
  have hsz : (w.alloc (gbox (.slice a1 d.1.1.length n1) (.slice a2 d.1.2.length n2) (.slice a3 d.2.1.length n3) (.slice a4 d.2.2.length n4))).heap.size = w.heap.size + 1 := by simp
  have HT0 := Lib.hid (four_new w (.slice a1 d.1.1.length n1) (.slice a2 d.1.2.length n2) (.slice a3 d.2.1.length n3) (.slice a4 d.2.2.length n4))
  have hb1 := bel_box (w.alloc (gbox (.slice a1 d.1.1.length n1) (.slice a2 d.1.2.length n2) (.slice a3 d.2.1.length n3) (.slice a4 d.2.2.length n4))) (gbox (.slice a5 e.1.1.length n5) (.slice a6 e.1.2.length n6) (.slice a7 e.2.1.length n7) (.slice a8 e.2.2.length n8))
  have HS := Lib.hid (four_new (w.alloc (gbox (.slice a1 d.1.1.length n1) (.slice a2 d.1.2.length n2) (.slice a3 d.2.1.length n3) (.slice a4 d.2.2.length n4))) (.slice a5 e.1.1.length n5) (.slice a6 e.1.2.length n6) (.slice a7 e.2.1.length n7) (.slice a8 e.2.2.length n8))
  rw [hsz] at HS
  have HT := Lib.hid (HT0.out.keep hb1)
  have HB := bel_tr (Lib.hid hb0) hb1
  have HG := Lib.hid (HG0.out.keep HB.out)
  have HH := Lib.hid (HH0.out.keep HB.out)
  clear hl hm HG0 HH0 hb0 hb1 HT0 hsz
  generalize decide (d = e) = R at *
  generalize decide (d.1 = e.1) = r1 at *
  generalize decide (d.2 = e.2) = r2 at *
  go_enter Tryz.func10, Tryz.ntmps10
  go_upto_region 1 with fail
  generalize (w.alloc (gbox (.slice a1 d.1.1.length n1) (.slice a2 d.1.2.length n2) (.slice a3 d.2.1.length n3) (.slice a4 d.2.2.length n4))).alloc (gbox (.slice a5 e.1.1.length n5) (.slice a6 e.1.2.length n6) (.slice a7 e.2.1.length n7) (.slice a8 e.2.2.length n8)) = w1 at *
  have k0 := HT.out.1.1
  have k1 := HT.out.1.2
  have k2 := HT.out.2.1
  have k3 := HT.out.2.2
  have l0 := HS.out.1.1
  have l1 := HS.out.1.2
  have l2 := HS.out.2.1
  have l3 := HS.out.2.2
  go_wp2_with fail
  refine (HV1.out _ HG.out HH.out).mono ?_
  rintro e w2 ⟨rfl, hb⟩
  replace HG := Lib.hid (HG.out.keep hb)
  replace HH := Lib.hid (HH.out.keep hb)
  replace HT := Lib.hid (HT.out.keep hb)
  replace HS := Lib.hid (HS.out.keep hb)
  replace HB := bel_tr HB hb
  clear hb HV1 k0 k1 k2 k3 l0 l1 l2 l3
  have k0 := HT.out.1.1
  have k1 := HT.out.1.2
  have k2 := HT.out.2.1
  have k3 := HT.out.2.2
  have l0 := HS.out.1.1
  have l1 := HS.out.1.2
  have l2 := HS.out.2.1
  have l3 := HS.out.2.2
  rcases r1 with _ | _
  · have hE := HE.out
    subst hE
    clear HE
    go_wp2_with fail
    go_ret
    exact ⟨rfl, HB.out⟩
  go_wp2_with fail
  refine (HV2.out _ HG.out HH.out).mono ?_
  rintro e w3 ⟨rfl, hb⟩
  replace HG := Lib.hid (HG.out.keep hb)
  replace HH := Lib.hid (HH.out.keep hb)
  replace HT := Lib.hid (HT.out.keep hb)
  replace HS := Lib.hid (HS.out.keep hb)
  replace HB := bel_tr HB hb
  clear hb HV2 k0 k1 k2 k3 l0 l1 l2 l3
  have hE := HE.out
  subst hE
  clear HE
  go_wp2_with fail
  go_ret
  exact ⟨by simp, HB.out⟩
end Go.Proofs.YtgopkffgljiblaaGreat.Dg
