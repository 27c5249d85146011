/-
  Layer 16: the laws DigestLooks, DigestDiffs, DigestStates.
-/
import Derived.Test.YtgopkffgljiblaaGreatDgM
import Derived.Test.YtgopkffgljiblaaGreatDgK
namespace Go.Proofs.YtgopkffgljiblaaGreat.Dg
set_option linter.unusedVariables false
open Go.RowKit V Go.Sort D Nd Qs Jn
open E (SV)
open F (Ct cv cbox Bc)
attribute [local irreducible] Sch.heldN Sch.stepV Sch.stepE

theorem Tg.da {g g2 : Nat} {x y u v s t o q : Value} : ∀ w, Tg g g2 x y u v s t o q w → (Instr.loadAt 27 (.pointer (some ⟨g, 0, none⟩))).run Tryz.prog w = .ok (gv x y u v) w := fun w h => load_dig h.1
theorem Tg.db {g g2 : Nat} {x y u v s t o q : Value} : ∀ w, Tg g g2 x y u v s t o q w → (Instr.loadAt 27 (.pointer (some ⟨g2, 0, none⟩))).run Tryz.prog w = .ok (gv s t o q) w := fun w h => load_dig h.2
def Tq (g : Nat) (x y u v : Value) (w : World) : Prop := Gb w g x y u v
theorem Tq.keep {g : Nat} {x y u v : Value} {w w' : World} (h : Tq g x y u v w) (hb : Below w.heap.size w w') : Tq g x y u v w' := Gb.keep h hb
theorem Tq.d {g : Nat} {x y u v : Value} : ∀ w, Tq g x y u v w → (Instr.loadAt 27 (.pointer (some ⟨g, 0, none⟩))).run Tryz.prog w = .ok (gv x y u v) w := fun w h => load_dig h
theorem GL_nil (N : Nat) : GL N (([], []), [], []) := ⟨⟨Nat.zero_le _, Nat.zero_le _⟩, Nat.zero_le _, Nat.zero_le _⟩
theorem ctx_len {l : List Nt} (h : validS l = true) (b : Bool) : KL (l.length + 64) (ctxS l b) := by
  have h1 := E.vd_len (comp_vcC (ctx_comp h b)).1
  have h2 := cloud_ctx h b
  have h3 := List.length_filter_le (fun x : Dt => decide (E.getV (ctxS l b).1 x.1 < x.2)) (dotsS l b)
  have h4 := dots_len l b
  rw [h2] at h3
  exact ⟨by omega, by omega⟩
theorem of_len {l : List Nt} (h : validS l = true) : GL (l.length + 64) (ofG l) := ⟨ctx_len h false, ctx_len h true⟩
theorem union_lenC {a b : Ct} (ha : F.isCompR a = true) (hb : F.isCompR b = true) : (F.unionC a b).1.length ≤ 64 ∧ (F.unionC a b).2.length ≤ a.2.length + b.2.length := by
  refine ⟨E.vd_len (comp_vcC (F.union_comp (comp_vcC ha) (comp_vcC hb))).1, ?_⟩
  rw [← foldU_end ha hb]
  have := foldU_len (F.unionC a b).1 (a.2 ++ b.2) []
  simp only [List.length_nil, List.length_append] at this
  omega
theorem merge_len {a b : Gt} (ha : validG a = true) (hb : validG b = true) {N : Nat} (hl : GL N a) (hm : GL N b) : GL (N + N + 64) (mergeG a b) := by
  obtain ⟨a1, a2, -⟩ := valid_parts ha
  obtain ⟨b1, b2, -⟩ := valid_parts hb
  obtain ⟨h1, h2⟩ := union_lenC a1 b1
  obtain ⟨h3, h4⟩ := union_lenC a2 b2
  have p1 := hl.1.2
  have p2 := hl.2.2
  have p3 := hm.1.2
  have p4 := hm.2.2
  exact ⟨⟨by show (F.unionC a.1 b.1).1.length ≤ _; omega, by show (F.unionC a.1 b.1).2.length ≤ _; omega⟩, by show (F.unionC a.2 b.2).1.length ≤ _; omega, by show (F.unionC a.2 b.2).2.length ≤ _; omega⟩
theorem mergB_no {a b : Gt} (h : (validG a && validG b) = false) : mergB a b = ((([], []), [], []), 2) := by unfold mergB; rw [h]; rfl
theorem withG_no {a b : Gt} (h : (validG a && validG b) = false) : withG a b = (false, 2) := by unfold withG; rw [h]; rfl
theorem mergB_yes {a b : Gt} (ha : validG a = true) (hb : validG b = true) : mergB a b = (mergeG a b, 0) := by unfold mergB; rw [ha, hb]; rfl
theorem withG_yes {a b : Gt} (ha : validG a = true) (hb : validG b = true) : withG a b = (withinG a b, 0) := by unfold withG; rw [ha, hb]; rfl
set_option maxRecDepth 100000 in
set_option maxHeartbeats 8000000 in
theorem looks_law (d e : Gt) (x y u v s t o q : Value) (w : World) (h : Gx w x y u v d) (h2 : Gx w s t o q e) :
    Calls Tryz.prog 3 #[gv x y u v, gv s t o q] w fun e' w' => e' = .returned (.bool true) ∧ Below w.heap.size w w' := by
  have HK1 := Lib.hid h
  have HK2 := Lib.hid h2
  obtain ⟨⟨⟨a1, n1, rfl, -⟩, a2, n2, rfl, -⟩, ⟨a3, n3, rfl, -⟩, a4, n4, rfl, -⟩ := h
  obtain ⟨⟨⟨a5, n5, rfl, -⟩, a6, n6, rfl, -⟩, ⟨a7, n7, rfl, -⟩, a8, n8, rfl, -⟩ := h2
  have hb0 := bel_box w (gbox (.slice a1 d.1.1.length n1) (.slice a2 d.1.2.length n2) (.slice a3 d.2.1.length n3) (.slice a4 d.2.2.length n4))
  have hsz : (w.alloc (gbox (.slice a1 d.1.1.length n1) (.slice a2 d.1.2.length n2) (.slice a3 d.2.1.length n3) (.slice a4 d.2.2.length n4))).heap.size = w.heap.size + 1 := by simp
  have HT0 := four_new w (.slice a1 d.1.1.length n1) (.slice a2 d.1.2.length n2) (.slice a3 d.2.1.length n3) (.slice a4 d.2.2.length n4)
  have hb1 := bel_box (w.alloc (gbox (.slice a1 d.1.1.length n1) (.slice a2 d.1.2.length n2) (.slice a3 d.2.1.length n3) (.slice a4 d.2.2.length n4))) (gbox (.slice a5 e.1.1.length n5) (.slice a6 e.1.2.length n6) (.slice a7 e.2.1.length n7) (.slice a8 e.2.2.length n8))
  have hS := four_new (w.alloc (gbox (.slice a1 d.1.1.length n1) (.slice a2 d.1.2.length n2) (.slice a3 d.2.1.length n3) (.slice a4 d.2.2.length n4))) (.slice a5 e.1.1.length n5) (.slice a6 e.1.2.length n6) (.slice a7 e.2.1.length n7) (.slice a8 e.2.2.length n8)
  rw [hsz] at hS
  have HK := Lib.hid (show Tg w.heap.size (w.heap.size + 1) (.slice a1 d.1.1.length n1) (.slice a2 d.1.2.length n2) (.slice a3 d.2.1.length n3) (.slice a4 d.2.2.length n4) (.slice a5 e.1.1.length n5) (.slice a6 e.1.2.length n6) (.slice a7 e.2.1.length n7) (.slice a8 e.2.2.length n8) ((w.alloc (gbox (.slice a1 d.1.1.length n1) (.slice a2 d.1.2.length n2) (.slice a3 d.2.1.length n3) (.slice a4 d.2.2.length n4))).alloc (gbox (.slice a5 e.1.1.length n5) (.slice a6 e.1.2.length n6) (.slice a7 e.2.1.length n7) (.slice a8 e.2.2.length n8))) from ⟨HT0.keep hb1, hS⟩)
  have HB := bel_tr (Lib.hid hb0) hb1
  have HG := Lib.hid (HK1.out.keep HB.out)
  have HH := Lib.hid (HK2.out.keep HB.out)
  clear hb0 hb1 HT0 hS hsz HK1 HK2
  have HS1 := Lib.hid (fun w h => small_ref d (.slice a1 d.1.1.length n1) (.slice a2 d.1.2.length n2) (.slice a3 d.2.1.length n3) (.slice a4 d.2.2.length n4) w h)
  have HS2 := Lib.hid (fun w h => small_ref e (.slice a5 e.1.1.length n5) (.slice a6 e.1.2.length n6) (.slice a7 e.2.1.length n7) (.slice a8 e.2.2.length n8) w h)
  go_enter Tryz.func3, Tryz.ntmps3
  go_upto_region 1 with fail
  generalize (w.alloc (gbox (.slice a1 d.1.1.length n1) (.slice a2 d.1.2.length n2) (.slice a3 d.2.1.length n3) (.slice a4 d.2.2.length n4))).alloc (gbox (.slice a5 e.1.1.length n5) (.slice a6 e.1.2.length n6) (.slice a7 e.2.1.length n7) (.slice a8 e.2.2.length n8)) = w1 at *
  obtain ⟨⟨⟨k0, k1⟩, k2, k3⟩, ⟨l0, l1⟩, l2, l3⟩ := HK.out
  go_wp2_with fail
  refine (HS1.out _ HG.out).mono ?_
  rintro e' w2 ⟨rfl, hb⟩
  replace HK := Lib.hid (HK.out.keep hb)
  replace HG := Lib.hid (HG.out.keep hb)
  replace HH := Lib.hid (HH.out.keep hb)
  replace HB := bel_tr HB hb
  clear hb HS1 k0 k1 k2 k3 l0 l1 l2 l3
  rcases hs1 : smallG d with _ | _
  · clear hs1 HS2 HK HG HH
    go_wp2_with fail
    refine (known_any _).mono ?_
    rintro e' w99 ⟨rfl, hb⟩
    replace HB := bel_tr HB hb
    clear hb
    go_wp2_with fail
    go_ret
    exact ⟨rfl, HB.out⟩
  obtain ⟨⟨⟨k0, k1⟩, k2, k3⟩, ⟨l0, l1⟩, l2, l3⟩ := HK.out
  go_wp2_with fail
  refine (HS2.out _ HH.out).mono ?_
  rintro e' w3 ⟨rfl, hb⟩
  replace HK := Lib.hid (HK.out.keep hb)
  replace HG := Lib.hid (HG.out.keep hb)
  replace HH := Lib.hid (HH.out.keep hb)
  replace HB := bel_tr HB hb
  clear hb HS2 k0 k1 k2 k3 l0 l1 l2 l3
  rcases hs2 : smallG e with _ | _
  · clear hs1 hs2 HK HG HH
    go_wp2_with fail
    refine (known_any _).mono ?_
    rintro e' w99 ⟨rfl, hb⟩
    replace HB := bel_tr HB hb
    clear hb
    go_wp2_with fail
    go_ret
    exact ⟨rfl, HB.out⟩
  have hg1 := small_iff.1 hs1
  have hg2 := small_iff.1 hs2
  have HV1 := Lib.hid (fun w h => gvalid_any d (.slice a1 d.1.1.length n1) (.slice a2 d.1.2.length n2) (.slice a3 d.2.1.length n3) (.slice a4 d.2.2.length n4) w h (hg1.mono (by decide)))
  have HV2 := Lib.hid (fun w h => validR_ref d (.slice a1 d.1.1.length n1) (.slice a2 d.1.2.length n2) (.slice a3 d.2.1.length n3) (.slice a4 d.2.2.length n4) w h (hg1.mono (by decide)))
  have HV3 := Lib.hid (fun w h => validR_ref e (.slice a5 e.1.1.length n5) (.slice a6 e.1.2.length n6) (.slice a7 e.2.1.length n7) (.slice a8 e.2.2.length n8) w h (hg2.mono (by decide)))
  have HE1 := Lib.hid (fun w h h2 => gequal_any d e (.slice a1 d.1.1.length n1) (.slice a2 d.1.2.length n2) (.slice a3 d.2.1.length n3) (.slice a4 d.2.2.length n4) (.slice a5 e.1.1.length n5) (.slice a6 e.1.2.length n6) (.slice a7 e.2.1.length n7) (.slice a8 e.2.2.length n8) w h h2 (hg1.mono (by decide)) (hg2.mono (by decide)))
  have HE2 := Lib.hid (fun w h h2 => gsame_ref d e (.slice a1 d.1.1.length n1) (.slice a2 d.1.2.length n2) (.slice a3 d.2.1.length n3) (.slice a4 d.2.2.length n4) (.slice a5 e.1.1.length n5) (.slice a6 e.1.2.length n6) (.slice a7 e.2.1.length n7) (.slice a8 e.2.2.length n8) w h h2 (hg1.mono (by decide)) (hg2.mono (by decide)))
  have HE3 := Lib.hid (fun w h => gequal_any d d (.slice a1 d.1.1.length n1) (.slice a2 d.1.2.length n2) (.slice a3 d.2.1.length n3) (.slice a4 d.2.2.length n4) (.slice a1 d.1.1.length n1) (.slice a2 d.1.2.length n2) (.slice a3 d.2.1.length n3) (.slice a4 d.2.2.length n4) w h h (hg1.mono (by decide)) (hg1.mono (by decide)))
  rw [decide_eq_true rfl] at HE3
  have HMn := Lib.hid (fun (w : World) (h : (validG d && validG e) = false) (h1 : Gx w (.slice a1 d.1.1.length n1) (.slice a2 d.1.2.length n2) (.slice a3 d.2.1.length n3) (.slice a4 d.2.2.length n4) d) (h2 : Gx w (.slice a5 e.1.1.length n5) (.slice a6 e.1.2.length n6) (.slice a7 e.2.1.length n7) (.slice a8 e.2.2.length n8) e) => merges_true (mergB_no h) h1 (hg1.mono (by decide)) h2 (hg2.mono (by decide)) (Gx.nil w) (GL_nil _))
  have HWn := Lib.hid (fun (w : World) (h : (validG d && validG e) = false) (h1 : Gx w (.slice a1 d.1.1.length n1) (.slice a2 d.1.2.length n2) (.slice a3 d.2.1.length n3) (.slice a4 d.2.2.length n4) d) (h2 : Gx w (.slice a5 e.1.1.length n5) (.slice a6 e.1.2.length n6) (.slice a7 e.2.1.length n7) (.slice a8 e.2.2.length n8) e) => withins_true (withG_no h) h1 (hg1.mono (by decide)) h2 (hg2.mono (by decide)))
  have HMr := Lib.hid (fun (p : validG d = true) (r : validG e = true) w h h2 => gmergeR_ref d e p r (.slice a1 d.1.1.length n1) (.slice a2 d.1.2.length n2) (.slice a3 d.2.1.length n3) (.slice a4 d.2.2.length n4) (.slice a5 e.1.1.length n5) (.slice a6 e.1.2.length n6) (.slice a7 e.2.1.length n7) (.slice a8 e.2.2.length n8) w h h2 (hg1.mono (by decide)) (hg2.mono (by decide)))
  have HWr := Lib.hid (fun (p : validG d = true) (r : validG e = true) w h h2 => gwithinR_ref d e (.slice a1 d.1.1.length n1) (.slice a2 d.1.2.length n2) (.slice a3 d.2.1.length n3) (.slice a4 d.2.2.length n4) (.slice a5 e.1.1.length n5) (.slice a6 e.1.2.length n6) (.slice a7 e.2.1.length n7) (.slice a8 e.2.2.length n8) w p r h h2 (hg1.mono (by decide)) (hg2.mono (by decide)))
  have HMy := Lib.hid (fun (p : validG d = true) (r : validG e = true) (w : World) (x y u v : Value) (h1 : Gx w (.slice a1 d.1.1.length n1) (.slice a2 d.1.2.length n2) (.slice a3 d.2.1.length n3) (.slice a4 d.2.2.length n4) d) (h2 : Gx w (.slice a5 e.1.1.length n5) (.slice a6 e.1.2.length n6) (.slice a7 e.2.1.length n7) (.slice a8 e.2.2.length n8) e) (h3 : Gx w x y u v (mergeG d e)) => merges_true (mergB_yes p r) h1 (hg1.mono (by decide)) h2 (hg2.mono (by decide)) h3 ((merge_len p r hg1 hg2).mono (by decide)))
  have HWy := Lib.hid (fun (p : validG d = true) (r : validG e = true) (w : World) (h1 : Gx w (.slice a1 d.1.1.length n1) (.slice a2 d.1.2.length n2) (.slice a3 d.2.1.length n3) (.slice a4 d.2.2.length n4) d) (h2 : Gx w (.slice a5 e.1.1.length n5) (.slice a6 e.1.2.length n6) (.slice a7 e.2.1.length n7) (.slice a8 e.2.2.length n8) e) => withins_true (withG_yes p r) h1 (hg1.mono (by decide)) h2 (hg2.mono (by decide)))
  clear hs1 hs2 hg1 hg2
  generalize mergeG d e = mde at *
  generalize withinG d e = wde at *
  generalize decide (d = e) = eq1 at *
  generalize validG d = v1 at *
  generalize validG e = v2 at *
  obtain ⟨⟨⟨k0, k1⟩, k2, k3⟩, ⟨l0, l1⟩, l2, l3⟩ := HK.out
  go_wp2_with fail
  clear k0 k1 k2 k3 l0 l1 l2 l3
  have hd := (Below.refl w3.heap.size w3).drew
  replace HK := Lib.hid (HK.out.keep hd)
  replace HG := Lib.hid (HG.out.keep hd)
  replace HH := Lib.hid (HH.out.keep hd)
  replace HB := bel_tr HB hd
  clear hd
  refine Sch.wp_region_tn (Tg w.heap.size (w.heap.size + 1) (.slice a1 d.1.1.length n1) (.slice a2 d.1.2.length n2) (.slice a3 d.2.1.length n3) (.slice a4 d.2.2.length n4) (.slice a5 e.1.1.length n5) (.slice a6 e.1.2.length n6) (.slice a7 e.2.1.length n7) (.slice a8 e.2.2.length n8)) (.val 0 (.val 2 (.one 1 (.one 3 (.val 4 (.val 5 (.val 6 (.val 7 (.val 9 (.val 10 (.one 8 (.one 11 (.val 12 (.val 13 (.val 14 (.val 15 (.val 16 (.one 17 (.val 18 (.val 19 .done)))))))))))))))))))) (by kernel_rfl) (by kernel_rfl) HK.out ?_
  repeat (first
    | (refine Sch.tn_q rfl rfl rfl (fun K hK => ?_); go_big_quiet_op; (first | refine hK _ ?_ | refine ⟨_, fun _ _ => rfl, hK _ ?_⟩); clear hK K)
    | (refine Sch.tn_chk _ _ _ rfl rfl rfl rfl rfl ?_; simp only [Act.put, List.setIfInBounds_toArray, List.set_cons_zero, List.set_cons_succ])
    | (refine Sch.tn_load _ _ _ _ _ rfl rfl rfl rfl (by first | exact Tg.da | exact Tg.db) rfl ?_; simp only [Act.put, List.setIfInBounds_toArray, List.set_cons_zero, List.set_cons_succ]))
  generalize w3.drew = w4 at *
  refine Sch.tn_e rfl rfl (fun K hK => ?_)
  go_wp2_with fail
  refine (HV1.out _ HG.out).mono ?_
  rintro e' w5 ⟨rfl, hb⟩
  replace HK := Lib.hid (HK.out.keep hb)
  replace HG := Lib.hid (HG.out.keep hb)
  replace HH := Lib.hid (HH.out.keep hb)
  replace HB := bel_tr HB hb
  clear hb
  refine hK _ _ HK.out ?_
  clear hK K
  refine Sch.tn_e rfl rfl (fun K hK => ?_)
  go_wp2_with fail
  refine (HV2.out _ HG.out).mono ?_
  rintro e' w6 ⟨rfl, hb⟩
  replace HK := Lib.hid (HK.out.keep hb)
  replace HG := Lib.hid (HG.out.keep hb)
  replace HH := Lib.hid (HH.out.keep hb)
  replace HB := bel_tr HB hb
  clear hb
  refine hK _ _ HK.out ?_
  clear hK K
  have hne : (v1 != v1) = false := bne_self_eq_false _
  repeat (first
    | (refine Sch.tn_q rfl rfl rfl (fun K hK => ?_); go_big_quiet_op; (first | refine hK _ ?_ | refine ⟨_, fun _ _ => rfl, hK _ ?_⟩); clear hK K)
    | (refine Sch.tn_chk _ _ _ rfl rfl rfl rfl rfl ?_; simp only [Act.put, List.setIfInBounds_toArray, List.set_cons_zero, List.set_cons_succ])
    | (refine Sch.tn_load _ _ _ _ _ rfl rfl rfl rfl (by first | exact Tg.da | exact Tg.db) rfl ?_; simp only [Act.put, List.setIfInBounds_toArray, List.set_cons_zero, List.set_cons_succ]))
  refine Sch.tn_e rfl rfl (fun K hK => ?_)
  go_wp2_with fail
  refine (HE1.out _ HG.out HH.out).mono ?_
  rintro e' w7 ⟨rfl, hb⟩
  replace HK := Lib.hid (HK.out.keep hb)
  replace HG := Lib.hid (HG.out.keep hb)
  replace HH := Lib.hid (HH.out.keep hb)
  replace HB := bel_tr HB hb
  clear hb
  refine hK _ _ HK.out ?_
  clear hK K
  refine Sch.tn_e rfl rfl (fun K hK => ?_)
  go_wp2_with fail
  refine (HE2.out _ HG.out HH.out).mono ?_
  rintro e' w8 ⟨rfl, hb⟩
  replace HK := Lib.hid (HK.out.keep hb)
  replace HG := Lib.hid (HG.out.keep hb)
  replace HH := Lib.hid (HH.out.keep hb)
  replace HB := bel_tr HB hb
  clear hb
  refine hK _ _ HK.out ?_
  clear hK K
  have hne2 : (eq1 != eq1) = false := bne_self_eq_false _
  repeat (first
    | (refine Sch.tn_q rfl rfl rfl (fun K hK => ?_); go_big_quiet_op; (first | refine hK _ ?_ | refine ⟨_, fun _ _ => rfl, hK _ ?_⟩); clear hK K)
    | (refine Sch.tn_chk _ _ _ rfl rfl rfl rfl rfl ?_; simp only [Act.put, List.setIfInBounds_toArray, List.set_cons_zero, List.set_cons_succ])
    | (refine Sch.tn_load _ _ _ _ _ rfl rfl rfl rfl (by first | exact Tg.da | exact Tg.db) rfl ?_; simp only [Act.put, List.setIfInBounds_toArray, List.set_cons_zero, List.set_cons_succ]))
  refine Sch.tn_e rfl rfl (fun K hK => ?_)
  go_wp2_with fail
  refine (HE3.out _ HG.out).mono ?_
  rintro e' w9 ⟨rfl, hb⟩
  replace HK := Lib.hid (HK.out.keep hb)
  replace HG := Lib.hid (HG.out.keep hb)
  replace HH := Lib.hid (HH.out.keep hb)
  replace HB := bel_tr HB hb
  clear hb
  refine hK _ _ HK.out ?_
  clear hK K
  repeat (first
    | (refine Sch.tn_q rfl rfl rfl (fun K hK => ?_); go_big_quiet_op; (first | refine hK _ ?_ | refine ⟨_, fun _ _ => rfl, hK _ ?_⟩); clear hK K)
    | (refine Sch.tn_chk _ _ _ rfl rfl rfl rfl rfl ?_; simp only [Act.put, List.setIfInBounds_toArray, List.set_cons_zero, List.set_cons_succ])
    | (refine Sch.tn_load _ _ _ _ _ rfl rfl rfl rfl (by first | exact Tg.da | exact Tg.db) rfl ?_; simp only [Act.put, List.setIfInBounds_toArray, List.set_cons_zero, List.set_cons_succ]))
  refine Sch.tn_n ?_
  clear HE1 HE2 HE3 HV1 hne hne2
  obtain ⟨⟨⟨k0, k1⟩, k2, k3⟩, ⟨l0, l1⟩, l2, l3⟩ := HK.out
  go_wp2_with fail
  refine (HV2.out _ HG.out).mono ?_
  rintro e' w10 ⟨rfl, hb⟩
  replace HK := Lib.hid (HK.out.keep hb)
  replace HG := Lib.hid (HG.out.keep hb)
  replace HH := Lib.hid (HH.out.keep hb)
  replace HB := bel_tr HB hb
  clear hb HV2 k0 k1 k2 k3 l0 l1 l2 l3
  rcases v1 with _ | _
  · obtain ⟨⟨⟨k0, k1⟩, k2, k3⟩, ⟨l0, l1⟩, l2, l3⟩ := HK.out
    go_wp2_with fail
    refine (HMn.out _ (by first | rfl | simp) HG.out HH.out).mono ?_
    rintro e' w11 ⟨rfl, hb⟩
    replace HK := Lib.hid (HK.out.keep hb)
    replace HG := Lib.hid (HG.out.keep hb)
    replace HH := Lib.hid (HH.out.keep hb)
    replace HB := bel_tr HB hb
    clear hb HMn k0 k1 k2 k3 l0 l1 l2 l3
    obtain ⟨⟨⟨k0, k1⟩, k2, k3⟩, ⟨l0, l1⟩, l2, l3⟩ := HK.out
    go_wp2_with fail
    refine (HWn.out _ (by first | rfl | simp) HG.out HH.out).mono ?_
    rintro e' w12 ⟨rfl, hb⟩
    replace HK := Lib.hid (HK.out.keep hb)
    replace HG := Lib.hid (HG.out.keep hb)
    replace HH := Lib.hid (HH.out.keep hb)
    replace HB := bel_tr HB hb
    clear hb HWn k0 k1 k2 k3 l0 l1 l2 l3
    go_wp2_with fail
    refine (known_any _).mono ?_
    rintro e' w99 ⟨rfl, hb⟩
    replace HB := bel_tr HB hb
    clear hb
    go_wp2_with fail
    go_ret
    exact ⟨rfl, HB.out⟩
  obtain ⟨⟨⟨k0, k1⟩, k2, k3⟩, ⟨l0, l1⟩, l2, l3⟩ := HK.out
  go_wp2_with fail
  refine (HV3.out _ HH.out).mono ?_
  rintro e' w13 ⟨rfl, hb⟩
  replace HK := Lib.hid (HK.out.keep hb)
  replace HG := Lib.hid (HG.out.keep hb)
  replace HH := Lib.hid (HH.out.keep hb)
  replace HB := bel_tr HB hb
  clear hb HV3 k0 k1 k2 k3 l0 l1 l2 l3
  rcases v2 with _ | _
  · obtain ⟨⟨⟨k0, k1⟩, k2, k3⟩, ⟨l0, l1⟩, l2, l3⟩ := HK.out
    go_wp2_with fail
    refine (HMn.out _ (by first | rfl | simp) HG.out HH.out).mono ?_
    rintro e' w14 ⟨rfl, hb⟩
    replace HK := Lib.hid (HK.out.keep hb)
    replace HG := Lib.hid (HG.out.keep hb)
    replace HH := Lib.hid (HH.out.keep hb)
    replace HB := bel_tr HB hb
    clear hb HMn k0 k1 k2 k3 l0 l1 l2 l3
    obtain ⟨⟨⟨k0, k1⟩, k2, k3⟩, ⟨l0, l1⟩, l2, l3⟩ := HK.out
    go_wp2_with fail
    refine (HWn.out _ (by first | rfl | simp) HG.out HH.out).mono ?_
    rintro e' w15 ⟨rfl, hb⟩
    replace HK := Lib.hid (HK.out.keep hb)
    replace HG := Lib.hid (HG.out.keep hb)
    replace HH := Lib.hid (HH.out.keep hb)
    replace HB := bel_tr HB hb
    clear hb HWn k0 k1 k2 k3 l0 l1 l2 l3
    go_wp2_with fail
    refine (known_any _).mono ?_
    rintro e' w99 ⟨rfl, hb⟩
    replace HB := bel_tr HB hb
    clear hb
    go_wp2_with fail
    go_ret
    exact ⟨rfl, HB.out⟩
  clear HMn HWn
  go_wp2_with fail
  have hd := (Below.refl w13.heap.size w13).drew
  replace HK := Lib.hid (HK.out.keep hd)
  replace HG := Lib.hid (HG.out.keep hd)
  replace HH := Lib.hid (HH.out.keep hd)
  replace HB := bel_tr HB hd
  clear hd
  refine Sch.wp_region_tn (Tg w.heap.size (w.heap.size + 1) (.slice a1 d.1.1.length n1) (.slice a2 d.1.2.length n2) (.slice a3 d.2.1.length n3) (.slice a4 d.2.2.length n4) (.slice a5 e.1.1.length n5) (.slice a6 e.1.2.length n6) (.slice a7 e.2.1.length n7) (.slice a8 e.2.2.length n8)) (.val 0 (.val 1 (.val 2 (.val 3 (.one 4 (.one 5 (.val 6 (.val 7 (.val 8 (.val 9 (.val 10 (.one 11 (.one 12 (.val 13 (.val 14 (.one 15 (.val 16 (.val 17 .done)))))))))))))))))) (by kernel_rfl) (by kernel_rfl) HK.out ?_
  repeat (first
    | (refine Sch.tn_q rfl rfl rfl (fun K hK => ?_); go_big_quiet_op; (first | refine hK _ ?_ | refine ⟨_, fun _ _ => rfl, hK _ ?_⟩); clear hK K)
    | (refine Sch.tn_chk _ _ _ rfl rfl rfl rfl rfl ?_; simp only [Act.put, List.setIfInBounds_toArray, List.set_cons_zero, List.set_cons_succ])
    | (refine Sch.tn_load _ _ _ _ _ rfl rfl rfl rfl (by first | exact Tg.da | exact Tg.db) rfl ?_; simp only [Act.put, List.setIfInBounds_toArray, List.set_cons_zero, List.set_cons_succ]))
  generalize w13.drew = wq at *
  refine Sch.tn_e rfl rfl (fun K hK => ?_)
  go_wp2_with fail
  refine (HMr.out (by first | rfl | trivial) (by first | rfl | trivial) _ HG.out HH.out).mono ?_
  rintro e' w16 ⟨x, y, u, v, rfl, ho, hb⟩
  have HX := Lib.hid ho.gx
  replace HX := Lib.hid HX.out
  replace HK := Lib.hid (HK.out.keep hb)
  replace HG := Lib.hid (HG.out.keep hb)
  replace HH := Lib.hid (HH.out.keep hb)
  replace HB := bel_tr HB hb
  clear hb ho HMr
  refine hK _ _ HK.out ?_
  clear hK K
  refine Sch.tn_e rfl rfl (fun K hK => ?_)
  go_wp2_with fail
  refine (HMy.out (by first | rfl | trivial) (by first | rfl | trivial) _ _ _ _ _ HG.out HH.out HX.out).mono ?_
  rintro e' w17 ⟨rfl, hb⟩
  replace HK := Lib.hid (HK.out.keep hb)
  replace HG := Lib.hid (HG.out.keep hb)
  replace HH := Lib.hid (HH.out.keep hb)
  replace HB := bel_tr HB hb
  clear hb HMy HX
  refine hK _ _ HK.out ?_
  clear hK K
  repeat (first
    | (refine Sch.tn_q rfl rfl rfl (fun K hK => ?_); go_big_quiet_op; (first | refine hK _ ?_ | refine ⟨_, fun _ _ => rfl, hK _ ?_⟩); clear hK K)
    | (refine Sch.tn_chk _ _ _ rfl rfl rfl rfl rfl ?_; simp only [Act.put, List.setIfInBounds_toArray, List.set_cons_zero, List.set_cons_succ])
    | (refine Sch.tn_load _ _ _ _ _ rfl rfl rfl rfl (by first | exact Tg.da | exact Tg.db) rfl ?_; simp only [Act.put, List.setIfInBounds_toArray, List.set_cons_zero, List.set_cons_succ]))
  refine Sch.tn_e rfl rfl (fun K hK => ?_)
  go_wp2_with fail
  refine (HWr.out (by first | rfl | trivial) (by first | rfl | trivial) _ HG.out HH.out).mono ?_
  rintro e' w18 ⟨rfl, hb⟩
  replace HK := Lib.hid (HK.out.keep hb)
  replace HG := Lib.hid (HG.out.keep hb)
  replace HH := Lib.hid (HH.out.keep hb)
  replace HB := bel_tr HB hb
  clear hb HWr
  refine hK _ _ HK.out ?_
  clear hK K
  refine Sch.tn_e rfl rfl (fun K hK => ?_)
  go_wp2_with fail
  refine (HWy.out (by first | rfl | trivial) (by first | rfl | trivial) _ HG.out HH.out).mono ?_
  rintro e' w19 ⟨rfl, hb⟩
  replace HK := Lib.hid (HK.out.keep hb)
  replace HG := Lib.hid (HG.out.keep hb)
  replace HH := Lib.hid (HH.out.keep hb)
  replace HB := bel_tr HB hb
  clear hb HWy
  refine hK _ _ HK.out ?_
  clear hK K
  repeat (first
    | (refine Sch.tn_q rfl rfl rfl (fun K hK => ?_); go_big_quiet_op; (first | refine hK _ ?_ | refine ⟨_, fun _ _ => rfl, hK _ ?_⟩); clear hK K)
    | (refine Sch.tn_chk _ _ _ rfl rfl rfl rfl rfl ?_; simp only [Act.put, List.setIfInBounds_toArray, List.set_cons_zero, List.set_cons_succ])
    | (refine Sch.tn_load _ _ _ _ _ rfl rfl rfl rfl (by first | exact Tg.da | exact Tg.db) rfl ?_; simp only [Act.put, List.setIfInBounds_toArray, List.set_cons_zero, List.set_cons_succ]))
  refine Sch.tn_e rfl rfl (fun K hK => ?_)
  go_wp2_with fail
  refine (known_any _).mono ?_
  rintro e' w20 ⟨rfl, hb⟩
  replace HK := Lib.hid (HK.out.keep hb)
  replace HG := Lib.hid (HG.out.keep hb)
  replace HH := Lib.hid (HH.out.keep hb)
  replace HB := bel_tr HB hb
  clear hb
  refine hK _ _ HK.out ?_
  clear hK K
  repeat (first
    | (refine Sch.tn_q rfl rfl rfl (fun K hK => ?_); go_big_quiet_op; (first | refine hK _ ?_ | refine ⟨_, fun _ _ => rfl, hK _ ?_⟩); clear hK K)
    | (refine Sch.tn_chk _ _ _ rfl rfl rfl rfl rfl ?_; simp only [Act.put, List.setIfInBounds_toArray, List.set_cons_zero, List.set_cons_succ])
    | (refine Sch.tn_load _ _ _ _ _ rfl rfl rfl rfl (by first | exact Tg.da | exact Tg.db) rfl ?_; simp only [Act.put, List.setIfInBounds_toArray, List.set_cons_zero, List.set_cons_succ]))
  refine Sch.tn_n ?_
  go_wp2_with fail
  go_ret
  exact ⟨rfl, HB.out⟩
theorem diffB_no {l : List Nt} {d : Gt} (h : (validS l && validG d) = false) : diffB l d = ([], 2) := by unfold diffB; rw [h]; rfl
theorem diffB_yes {l : List Nt} {d : Gt} (h : validS l = true) (h2 : validG d = true) : diffB l d = (diffG l d, 0) := by unfold diffB; rw [h, h2]; rfl
theorem diff_len (l : List Nt) (d : Gt) : (diffG l d).length ≤ l.length := List.length_filter_le _ _
theorem diffG_ref (l : List Nt) (hv : validS l = true) (a : Option Addr) (c : Nat) (d : Gt) (x y u v : Value) (w : World) (hx : RowN w a l) (hlx : l.length ≤ 300000) (h : Gx w x y u v d) (hl : GL 1000000 d) :
    Calls Tryz.prog 19 #[.slice a l.length c, gv x y u v] w fun e w' => ∃ z, e = .returned z ∧ ON w' w.heap.size 51 z (diffG l d) ∧ Below w.heap.size w w' := by
  rw [← diffR_eq hv d]
  exact diffR_ref l a c d x y u v w hx hlx h hl
set_option maxRecDepth 100000 in
set_option maxHeartbeats 8000000 in
theorem diffs_law (l : List Nt) (a : Option Addr) (c : Nat) (d : Gt) (x y u v : Value) (w : World) (hf : ∀ x ∈ l, fitN x) (hx : Sl w a l.length c l) (h : Gx w x y u v d) :
    Calls Tryz.prog 4 #[.slice a l.length c, gv x y u v] w fun e' w' => e' = .returned (.bool true) ∧ Below w.heap.size w w' := by
  have HK1 := Lib.hid h
  obtain ⟨⟨⟨a1, n1, rfl, -⟩, a2, n2, rfl, -⟩, ⟨a3, n3, rfl, -⟩, a4, n4, rfl, -⟩ := h
  have HB := Lib.hid (bel_box w (gbox (.slice a1 d.1.1.length n1) (.slice a2 d.1.2.length n2) (.slice a3 d.2.1.length n3) (.slice a4 d.2.2.length n4)))
  have HK := Lib.hid (show Tq w.heap.size (.slice a1 d.1.1.length n1) (.slice a2 d.1.2.length n2) (.slice a3 d.2.1.length n3) (.slice a4 d.2.2.length n4) (w.alloc (gbox (.slice a1 d.1.1.length n1) (.slice a2 d.1.2.length n2) (.slice a3 d.2.1.length n3) (.slice a4 d.2.2.length n4))) from four_new w (.slice a1 d.1.1.length n1) (.slice a2 d.1.2.length n2) (.slice a3 d.2.1.length n3) (.slice a4 d.2.2.length n4))
  have HG := Lib.hid (HK1.out.keep HB.out)
  have HX := Lib.hid (hx.keep HB.out)
  clear HK1 hx
  by_cases hl : 60 < l.length
  · have hl2 : (60 : Int) < (l.length : Int) := by omega
    clear hl HK HG HX hf
    go_enter Tryz.func4, Tryz.ntmps4
    go_upto_region 1 with fail
    generalize w.alloc (gbox (.slice a1 d.1.1.length n1) (.slice a2 d.1.2.length n2) (.slice a3 d.2.1.length n3) (.slice a4 d.2.2.length n4)) = w1 at *
    go_wp2_with fail
    refine (known_any _).mono ?_
    rintro e' w99 ⟨rfl, hb⟩
    replace HB := bel_tr HB hb
    clear hb
    go_wp2_with fail
    go_ret
    exact ⟨rfl, HB.out⟩
  have hl2 : ¬ (60 : Int) < (l.length : Int) := by omega
  have HS1 := Lib.hid (fun w h => small_ref d (.slice a1 d.1.1.length n1) (.slice a2 d.1.2.length n2) (.slice a3 d.2.1.length n3) (.slice a4 d.2.2.length n4) w h)
  have HSt := Lib.hid (fun w (h : Sl w a l.length c l) => store_ref l a c w h.r (by omega))
  go_enter Tryz.func4, Tryz.ntmps4
  go_upto_region 1 with fail
  generalize w.alloc (gbox (.slice a1 d.1.1.length n1) (.slice a2 d.1.2.length n2) (.slice a3 d.2.1.length n3) (.slice a4 d.2.2.length n4)) = w1 at *
  have k0 := HK.out.1.1
  have k1 := HK.out.1.2
  have k2 := HK.out.2.1
  have k3 := HK.out.2.2
  go_wp2_with fail
  refine (HS1.out _ HG.out).mono ?_
  rintro e' w2 ⟨rfl, hb⟩
  replace HX := Lib.hid (HX.out.keep hb)
  replace HK := Lib.hid (HK.out.keep hb)
  replace HG := Lib.hid (HG.out.keep hb)
  replace HB := bel_tr HB hb
  clear hb HS1 k0 k1 k2 k3
  rcases hs1 : smallG d with _ | _
  · clear hs1 HK HG HX
    go_wp2_with fail
    refine (known_any _).mono ?_
    rintro e' w99 ⟨rfl, hb⟩
    replace HB := bel_tr HB hb
    clear hb
    go_wp2_with fail
    go_ret
    exact ⟨rfl, HB.out⟩
  have hg1 := small_iff.1 hs1
  have HV := Lib.hid (fun w h => validR_ref d (.slice a1 d.1.1.length n1) (.slice a2 d.1.2.length n2) (.slice a3 d.2.1.length n3) (.slice a4 d.2.2.length n4) w h (hg1.mono (by decide)))
  have HDn := Lib.hid (fun (w : World) (h : (validS l && validG d) = false) (h1 : RowN w a l) (h2 : Gx w (.slice a1 d.1.1.length n1) (.slice a2 d.1.2.length n2) (.slice a3 d.2.1.length n3) (.slice a4 d.2.2.length n4) d) => diffs_true (c := c) (e := 0) (b := none) (diffB_no h) rfl (m := 0) rfl hf h1 (by omega) h2 (hg1.mono (by decide)) (RowN.nil _ _) (Nat.zero_le _))
  have HCp := Lib.hid (fun w (h : Sl w a l.length c l) => copy_ref l a c w h.r h.z (by omega))
  have HDr := Lib.hid (fun (hv : validS l = true) w (h : Sl w a l.length c l) h2 => diffG_ref l hv a c d (.slice a1 d.1.1.length n1) (.slice a2 d.1.2.length n2) (.slice a3 d.2.1.length n3) (.slice a4 d.2.2.length n4) w h.r (by omega) h2 (hg1.mono (by decide)))
  have HDy := Lib.hid (fun (hv : validS l = true) (hv2 : validG d = true) (w : World) (z : Option Addr) (cz : Nat) (h1 : RowN w a l) (h2 : Gx w (.slice a1 d.1.1.length n1) (.slice a2 d.1.2.length n2) (.slice a3 d.2.1.length n3) (.slice a4 d.2.2.length n4) d) (h3 : RowN w z (diffG l d)) => diffs_true (c := c) (e := cz) (diffB_yes hv hv2) rfl rfl hf h1 (by omega) h2 (hg1.mono (by decide)) h3 (by have := diff_len l d; omega))
  have HDp := Lib.hid (fun w (h : Sl w a l.length c l) h2 => gdiff_any l a c d (.slice a1 d.1.1.length n1) (.slice a2 d.1.2.length n2) (.slice a3 d.2.1.length n3) (.slice a4 d.2.2.length n4) w hf h.r (by omega) h2 (hg1.mono (by decide)))
  have HDe := Lib.hid (fun (hv : validS l = true) (hv2 : validG d = true) => diffB_yes hv hv2)
  have HDl : Hid ((diffG l d).length ≤ 1000) := by have := diff_len l d; show _ ≤ _; omega
  have HSm := Lib.hid (fun (w : World) (z : Option Addr) (cz : Nat) (h1 : RowN w a l) (h2 : RowN w z l) => same_ref l l a z c cz w h1 h2 (by omega) (by omega))
  rw [decide_eq_true rfl] at HSm
  clear hs1 hg1 hl hf
  generalize diffG l d = Z at *
  generalize diffB l d = DB at *
  generalize validG d = v2 at *
  generalize validS l = v1 at *
  go_wp2_with fail
  refine (HSt.out _ HX.out).mono ?_
  rintro e' w3 ⟨rfl, hb⟩
  replace HX := Lib.hid (HX.out.keep hb)
  replace HK := Lib.hid (HK.out.keep hb)
  replace HG := Lib.hid (HG.out.keep hb)
  replace HB := bel_tr HB hb
  clear hb HSt
  rcases v1 with _ | _
  · have k0 := HK.out.1.1
    have k1 := HK.out.1.2
    have k2 := HK.out.2.1
    have k3 := HK.out.2.2
    go_wp2_with fail
    refine (HDn.out _ (by first | rfl | simp) HX.out.r HG.out).mono ?_
    rintro e' w4 ⟨rfl, hb⟩
    replace HX := Lib.hid (HX.out.keep hb)
    replace HK := Lib.hid (HK.out.keep hb)
    replace HG := Lib.hid (HG.out.keep hb)
    replace HB := bel_tr HB hb
    clear hb HDn k0 k1 k2 k3
    go_wp2_with fail
    refine (known_any _).mono ?_
    rintro e' w99 ⟨rfl, hb⟩
    replace HB := bel_tr HB hb
    clear hb
    go_wp2_with fail
    go_ret
    exact ⟨rfl, HB.out⟩
  have k0 := HK.out.1.1
  have k1 := HK.out.1.2
  have k2 := HK.out.2.1
  have k3 := HK.out.2.2
  go_wp2_with fail
  refine (HV.out _ HG.out).mono ?_
  rintro e' w5 ⟨rfl, hb⟩
  replace HX := Lib.hid (HX.out.keep hb)
  replace HK := Lib.hid (HK.out.keep hb)
  replace HG := Lib.hid (HG.out.keep hb)
  replace HB := bel_tr HB hb
  clear hb HV k0 k1 k2 k3
  rcases v2 with _ | _
  · have k0 := HK.out.1.1
    have k1 := HK.out.1.2
    have k2 := HK.out.2.1
    have k3 := HK.out.2.2
    go_wp2_with fail
    refine (HDn.out _ (by first | rfl | simp) HX.out.r HG.out).mono ?_
    rintro e' w6 ⟨rfl, hb⟩
    replace HX := Lib.hid (HX.out.keep hb)
    replace HK := Lib.hid (HK.out.keep hb)
    replace HG := Lib.hid (HG.out.keep hb)
    replace HB := bel_tr HB hb
    clear hb HDn k0 k1 k2 k3
    go_wp2_with fail
    refine (known_any _).mono ?_
    rintro e' w99 ⟨rfl, hb⟩
    replace HB := bel_tr HB hb
    clear hb
    go_wp2_with fail
    go_ret
    exact ⟨rfl, HB.out⟩
  have hde := HDe.out (by first | rfl | trivial) (by first | rfl | trivial)
  subst hde
  clear HDn HDe
  go_wp2_with fail
  refine (HCp.out _ HX.out).mono ?_
  rintro e' wc ⟨vc, rfl, ho, hb⟩
  obtain ⟨pc, cc, rfl, hrc, -⟩ := ON.row ho
  have HC := Lib.hid hrc
  replace HX := Lib.hid (HX.out.keep hb)
  replace HK := Lib.hid (HK.out.keep hb)
  replace HG := Lib.hid (HG.out.keep hb)
  replace HB := bel_tr HB hb
  clear hb ho hrc HCp
  go_wp2_with fail
  have hd := (Below.refl wc.heap.size wc).drew
  replace HX := Lib.hid (HX.out.keep hd)
  replace HK := Lib.hid (HK.out.keep hd)
  replace HG := Lib.hid (HG.out.keep hd)
  replace HB := bel_tr HB hd
  replace HC := Lib.hid (HC.out.keep hd)
  clear hd
  refine Sch.wp_region_tn (Tq w.heap.size (.slice a1 d.1.1.length n1) (.slice a2 d.1.2.length n2) (.slice a3 d.2.1.length n3) (.slice a4 d.2.2.length n4)) (.val 0 (.val 1 (.val 2 (.val 3 (.one 4 (.one 5 (.val 6 .done))))))) (by kernel_rfl) (by kernel_rfl) HK.out ?_
  repeat (first
    | (refine Sch.tn_q rfl rfl rfl (fun K hK => ?_); go_big_quiet_op; (first | refine hK _ ?_ | refine ⟨_, fun _ _ => rfl, hK _ ?_⟩); clear hK K)
    | (refine Sch.tn_chk _ _ _ rfl rfl rfl rfl rfl ?_; simp only [Act.put, List.setIfInBounds_toArray, List.set_cons_zero, List.set_cons_succ])
    | (refine Sch.tn_load _ _ _ _ _ rfl rfl rfl rfl (by first | exact Tq.d) rfl ?_; simp only [Act.put, List.setIfInBounds_toArray, List.set_cons_zero, List.set_cons_succ]))
  generalize wc.drew = wd at *
  refine Sch.tn_e rfl rfl (fun K hK => ?_)
  go_wp2_with fail
  refine (HDr.out (by first | rfl | trivial) _ HX.out HG.out).mono ?_
  rintro e' we ⟨vz, rfl, ho, hb⟩
  obtain ⟨pz, cz, rfl, hrz, -⟩ := ON.row ho
  have HZ := Lib.hid hrz
  replace HX := Lib.hid (HX.out.keep hb)
  replace HK := Lib.hid (HK.out.keep hb)
  replace HG := Lib.hid (HG.out.keep hb)
  replace HB := bel_tr HB hb
  replace HC := Lib.hid (HC.out.keep hb)
  clear hb ho hrz HDr
  refine hK _ _ HK.out ?_
  clear hK K
  refine Sch.tn_e rfl rfl (fun K hK => ?_)
  go_wp2_with fail
  refine (HDy.out (by first | rfl | trivial) (by first | rfl | trivial) _ _ _ HX.out.r HG.out HZ.out).mono ?_
  rintro e' wf ⟨rfl, hb⟩
  replace HX := Lib.hid (HX.out.keep hb)
  replace HK := Lib.hid (HK.out.keep hb)
  replace HG := Lib.hid (HG.out.keep hb)
  replace HB := bel_tr HB hb
  replace HC := Lib.hid (HC.out.keep hb)
  clear hb HZ HDy
  refine hK _ _ HK.out ?_
  clear hK K
  repeat (first
    | (refine Sch.tn_q rfl rfl rfl (fun K hK => ?_); go_big_quiet_op; (first | refine hK _ ?_ | refine ⟨_, fun _ _ => rfl, hK _ ?_⟩); clear hK K)
    | (refine Sch.tn_chk _ _ _ rfl rfl rfl rfl rfl ?_; simp only [Act.put, List.setIfInBounds_toArray, List.set_cons_zero, List.set_cons_succ]))
  refine Sch.tn_n ?_
  have k0 := HK.out.1.1
  have k1 := HK.out.1.2
  have k2 := HK.out.2.1
  have k3 := HK.out.2.2
  go_wp2_with fail
  refine (HDp.out _ HX.out HG.out).mono ?_
  rintro e' wg ⟨vz, rfl, ho, hb⟩
  have HO := Lib.hid ho
  have HZ6 := Lib.hid hb
  clear ho hb HDp k0 k1 k2 k3
  go_wp2_with fail
  refine (stain_ref Z vz wf.heap.size wg HO.out (by have := HDl.out; omega)).mono ?_
  rintro e' wh ⟨rfl, hb⟩
  have hz : Below wf.heap.size wf wh := HZ6.out.trans hb
  replace HX := Lib.hid (HX.out.keep hz)
  replace HC := Lib.hid (HC.out.keep hz)
  replace HB := bel_tr HB hz
  clear hb hz HZ6 HO HK HG
  go_wp2_with fail
  refine (HSm.out _ _ _ HX.out.r HC.out).mono ?_
  rintro e' wi ⟨rfl, hb⟩
  replace HB := bel_tr HB hb
  clear hb HX HC HSm
  go_wp2_with fail
  refine (known_any _).mono ?_
  rintro e' w99 ⟨rfl, hb⟩
  replace HB := bel_tr HB hb
  clear hb
  go_wp2_with fail
  go_ret
  exact ⟨rfl, HB.out⟩
set_option maxRecDepth 100000 in
set_option maxHeartbeats 8000000 in
theorem states_law (xs ys : List Nt) (a b : Option Addr) (c f : Nat) (w : World) (hfx : ∀ x ∈ xs, fitN x) (hfy : ∀ x ∈ ys, fitN x) (hx : Sl w a xs.length c xs) (hy : Sl w b ys.length f ys) :
    Calls Tryz.prog 5 #[.slice a xs.length c, .slice b ys.length f] w fun e' w' => e' = .returned (.bool true) ∧ Below w.heap.size w w' := by
  have HB := Lib.hid (Below.refl w.heap.size w)
  by_cases hl : 40 < xs.length
  · have hl2 : (40 : Int) < (xs.length : Int) := by omega
    clear hl hx hy hfx hfy
    go_enter Tryz.func5, Tryz.ntmps5
    go_wp2_with fail
    refine (known_any _).mono ?_
    rintro e' w99 ⟨rfl, hb⟩
    replace HB := bel_tr HB hb
    clear hb
    go_wp2_with fail
    go_ret
    exact ⟨rfl, HB.out⟩
  have hl2 : ¬ (40 : Int) < (xs.length : Int) := by omega
  by_cases hl' : 40 < ys.length
  · have hl3 : (40 : Int) < (ys.length : Int) := by omega
    clear hl hl' hx hy hfx hfy
    go_enter Tryz.func5, Tryz.ntmps5
    go_wp2_with fail
    refine (known_any _).mono ?_
    rintro e' w99 ⟨rfl, hb⟩
    replace HB := bel_tr HB hb
    clear hb
    go_wp2_with fail
    go_ret
    exact ⟨rfl, HB.out⟩
  have hl3 : ¬ (40 : Int) < (ys.length : Int) := by omega
  have HX := Lib.hid hx
  have HY := Lib.hid hy
  have HS1 := Lib.hid (fun w (h : Sl w a xs.length c xs) => store_ref xs a c w h.r (by omega))
  have HS2 := Lib.hid (fun w (h : Sl w b ys.length f ys) => store_ref ys b f w h.r (by omega))
  have HO1 := Lib.hid (fun (hv : validS xs = true) w (h : Sl w a xs.length c xs) => ofR_ref xs hv a c w h.r (by omega))
  have HO2 := Lib.hid (fun (hv : validS ys = true) w (h : Sl w b ys.length f ys) => ofR_ref ys hv b f w h.r (by omega))
  have HD1 := Lib.hid (fun (hv : validS xs = true) (hv2 : validS ys = true) (x y u v : Value) w (h : Sl w a xs.length c xs) (h2 : Gx w x y u v (ofG ys)) => diffG_ref xs hv a c (ofG ys) x y u v w h.r (by omega) h2 ((of_len hv2).mono (by omega)))
  have HD2 := Lib.hid (fun (hv : validS xs = true) (hv2 : validS ys = true) (x y u v : Value) w (h : Sl w b ys.length f ys) (h2 : Gx w x y u v (ofG xs)) => diffG_ref ys hv2 b f (ofG xs) x y u v w h.r (by omega) h2 ((of_len hv).mono (by omega)))
  have HT1 := Lib.hid (fun (hv : validS xs = true) (hv2 : validS ys = true) (x y u v : Value) (z : Option Addr) (cz : Nat) (w : World) (h1 : RowN w a xs) (h2 : Gx w x y u v (ofG ys)) (h3 : RowN w z (diffG xs (ofG ys))) => diffs_true (c := c) (e := cz) (diffB_yes hv (of_validG hv2)) rfl rfl hfx h1 (by omega) h2 ((of_len hv2).mono (by omega)) h3 (by have := diff_len xs (ofG ys); omega))
  have HT2 := Lib.hid (fun (hv : validS xs = true) (hv2 : validS ys = true) (x y u v : Value) (z : Option Addr) (cz : Nat) (w : World) (h1 : RowN w b ys) (h2 : Gx w x y u v (ofG xs)) (h3 : RowN w z (diffG ys (ofG xs))) => diffs_true (c := f) (e := cz) (diffB_yes hv2 (of_validG hv)) rfl rfl hfy h1 (by omega) h2 ((of_len hv).mono (by omega)) h3 (by have := diff_len ys (ofG xs); omega))
  have HWr := Lib.hid (fun (hv : validS xs = true) (hv2 : validS ys = true) (x y u v s t o q : Value) w h h2 => gwithinR_ref (ofG xs) (ofG ys) x y u v s t o q w (of_validG hv) (of_validG hv2) h h2 ((of_len hv).mono (by omega)) ((of_len hv2).mono (by omega)))
  have HWy := Lib.hid (fun (hv : validS xs = true) (hv2 : validS ys = true) (x y u v s t o q : Value) (w : World) (h1 : Gx w x y u v (ofG xs)) (h2 : Gx w s t o q (ofG ys)) => withins_true (withG_yes (of_validG hv) (of_validG hv2)) h1 ((of_len hv).mono (by omega)) h2 ((of_len hv2).mono (by omega)))
  have HMr := Lib.hid (fun (hv : validS xs = true) (hv2 : validS ys = true) (x y u v s t o q : Value) w h h2 => gmergeR_ref (ofG xs) (ofG ys) (of_validG hv) (of_validG hv2) x y u v s t o q w h h2 ((of_len hv).mono (by omega)) ((of_len hv2).mono (by omega)))
  have HMy := Lib.hid (fun (hv : validS xs = true) (hv2 : validS ys = true) (x y u v s t o q i j k r : Value) (w : World) (h1 : Gx w x y u v (ofG xs)) (h2 : Gx w s t o q (ofG ys)) (h3 : Gx w i j k r (mergeG (ofG xs) (ofG ys))) => merges_true (mergB_yes (of_validG hv) (of_validG hv2)) h1 ((of_len hv).mono (by omega)) h2 ((of_len hv2).mono (by omega)) h3 ((merge_len (of_validG hv) (of_validG hv2) (of_len hv |>.mono (show xs.length + 64 ≤ 200 by omega)) (of_len hv2 |>.mono (show ys.length + 64 ≤ 200 by omega))).mono (by decide)))
  clear hl hl' hx hy hfx hfy
  generalize mergeG (ofG xs) (ofG ys) = gm at *
  generalize withinG (ofG xs) (ofG ys) = wi at *
  generalize diffG xs (ofG ys) = dx at *
  generalize diffG ys (ofG xs) = dy at *
  generalize ofG xs = gx at *
  generalize ofG ys = gy at *
  generalize validS xs = v1 at *
  generalize validS ys = v2 at *
  go_enter Tryz.func5, Tryz.ntmps5
  go_wp2_with fail
  refine (HS1.out _ HX.out).mono ?_
  rintro e' w1 ⟨rfl, hb⟩
  replace HX := Lib.hid (HX.out.keep hb)
  replace HY := Lib.hid (HY.out.keep hb)
  replace HB := bel_tr HB hb
  clear hb HS1
  rcases v1 with _ | _
  · clear HX HY
    go_wp2_with fail
    refine (known_any _).mono ?_
    rintro e' w99 ⟨rfl, hb⟩
    replace HB := bel_tr HB hb
    clear hb
    go_wp2_with fail
    go_ret
    exact ⟨rfl, HB.out⟩
  go_wp2_with fail
  refine (HS2.out _ HY.out).mono ?_
  rintro e' w2 ⟨rfl, hb⟩
  replace HX := Lib.hid (HX.out.keep hb)
  replace HY := Lib.hid (HY.out.keep hb)
  replace HB := bel_tr HB hb
  clear hb HS2
  rcases v2 with _ | _
  · clear HX HY
    go_wp2_with fail
    refine (known_any _).mono ?_
    rintro e' w99 ⟨rfl, hb⟩
    replace HB := bel_tr HB hb
    clear hb
    go_wp2_with fail
    go_ret
    exact ⟨rfl, HB.out⟩
  replace HO1 := Lib.hid (HO1.out (by first | rfl | trivial))
  replace HO2 := Lib.hid (HO2.out (by first | rfl | trivial))
  replace HD1 := Lib.hid (HD1.out (by first | rfl | trivial) (by first | rfl | trivial))
  replace HD2 := Lib.hid (HD2.out (by first | rfl | trivial) (by first | rfl | trivial))
  replace HT1 := Lib.hid (HT1.out (by first | rfl | trivial) (by first | rfl | trivial))
  replace HT2 := Lib.hid (HT2.out (by first | rfl | trivial) (by first | rfl | trivial))
  replace HWr := Lib.hid (HWr.out (by first | rfl | trivial) (by first | rfl | trivial))
  replace HWy := Lib.hid (HWy.out (by first | rfl | trivial) (by first | rfl | trivial))
  replace HMr := Lib.hid (HMr.out (by first | rfl | trivial) (by first | rfl | trivial))
  replace HMy := Lib.hid (HMy.out (by first | rfl | trivial) (by first | rfl | trivial))
  go_wp2_with fail
  refine (HO1.out _ HX.out).mono ?_
  rintro e' wo ⟨x', y', u', v', rfl, ho, hb⟩
  have HG := Lib.hid ho.gx
  obtain ⟨⟨⟨a1, n1, rfl, -⟩, a2, n2, rfl, -⟩, ⟨a3, n3, rfl, -⟩, a4, n4, rfl, -⟩ := HG.out
  replace HX := Lib.hid (HX.out.keep hb)
  replace HY := Lib.hid (HY.out.keep hb)
  replace HB := bel_tr HB hb
  clear hb ho HO1
  go_wp2_with fail
  refine (HO2.out _ HY.out).mono ?_
  rintro e' wp ⟨x', y', u', v', rfl, ho, hb⟩
  have HH := Lib.hid ho.gx
  obtain ⟨⟨⟨a5, n5, rfl, -⟩, a6, n6, rfl, -⟩, ⟨a7, n7, rfl, -⟩, a8, n8, rfl, -⟩ := HH.out
  replace HX := Lib.hid (HX.out.keep hb)
  replace HY := Lib.hid (HY.out.keep hb)
  replace HB := bel_tr HB hb
  replace HG := Lib.hid (HG.out.keep hb)
  clear hb ho HO2
  have hb0 := bel_box wp (gbox (.slice a1 gx.1.1.length n1) (.slice a2 gx.1.2.length n2) (.slice a3 gx.2.1.length n3) (.slice a4 gx.2.2.length n4))
  have hsz : (wp.alloc (gbox (.slice a1 gx.1.1.length n1) (.slice a2 gx.1.2.length n2) (.slice a3 gx.2.1.length n3) (.slice a4 gx.2.2.length n4))).heap.size = wp.heap.size + 1 := by simp
  have HT0 := four_new wp (.slice a1 gx.1.1.length n1) (.slice a2 gx.1.2.length n2) (.slice a3 gx.2.1.length n3) (.slice a4 gx.2.2.length n4)
  have hb1 := bel_box (wp.alloc (gbox (.slice a1 gx.1.1.length n1) (.slice a2 gx.1.2.length n2) (.slice a3 gx.2.1.length n3) (.slice a4 gx.2.2.length n4))) (gbox (.slice a5 gy.1.1.length n5) (.slice a6 gy.1.2.length n6) (.slice a7 gy.2.1.length n7) (.slice a8 gy.2.2.length n8))
  have hS := four_new (wp.alloc (gbox (.slice a1 gx.1.1.length n1) (.slice a2 gx.1.2.length n2) (.slice a3 gx.2.1.length n3) (.slice a4 gx.2.2.length n4))) (.slice a5 gy.1.1.length n5) (.slice a6 gy.1.2.length n6) (.slice a7 gy.2.1.length n7) (.slice a8 gy.2.2.length n8)
  rw [hsz] at hS
  have HK := Lib.hid (show Tg wp.heap.size (wp.heap.size + 1) (.slice a1 gx.1.1.length n1) (.slice a2 gx.1.2.length n2) (.slice a3 gx.2.1.length n3) (.slice a4 gx.2.2.length n4) (.slice a5 gy.1.1.length n5) (.slice a6 gy.1.2.length n6) (.slice a7 gy.2.1.length n7) (.slice a8 gy.2.2.length n8) ((wp.alloc (gbox (.slice a1 gx.1.1.length n1) (.slice a2 gx.1.2.length n2) (.slice a3 gx.2.1.length n3) (.slice a4 gx.2.2.length n4))).alloc (gbox (.slice a5 gy.1.1.length n5) (.slice a6 gy.1.2.length n6) (.slice a7 gy.2.1.length n7) (.slice a8 gy.2.2.length n8))) from ⟨HT0.keep hb1, hS⟩)
  have hb := (hb0.trans (hb1.mono hb0.size))
  replace HX := Lib.hid (HX.out.keep hb)
  replace HY := Lib.hid (HY.out.keep hb)
  replace HB := bel_tr HB hb
  replace HG := Lib.hid (HG.out.keep hb)
  replace HH := Lib.hid (HH.out.keep hb)
  clear hb hb0 hb1 HT0 hS hsz
  go_upto_region 4 with fail
  generalize (wp.alloc (gbox (.slice a1 gx.1.1.length n1) (.slice a2 gx.1.2.length n2) (.slice a3 gx.2.1.length n3) (.slice a4 gx.2.2.length n4))).alloc (gbox (.slice a5 gy.1.1.length n5) (.slice a6 gy.1.2.length n6) (.slice a7 gy.2.1.length n7) (.slice a8 gy.2.2.length n8)) = wq at *
  generalize wp.heap.size = g0 at *
  have hd := (Below.refl wq.heap.size wq).drew
  replace HX := Lib.hid (HX.out.keep hd)
  replace HY := Lib.hid (HY.out.keep hd)
  replace HG := Lib.hid (HG.out.keep hd)
  replace HH := Lib.hid (HH.out.keep hd)
  replace HK := Lib.hid (HK.out.keep hd)
  replace HB := bel_tr HB hd
  clear hd
  go_wp2_with fail
  refine Sch.wp_region_tn (Tg g0 (g0 + 1) (.slice a1 gx.1.1.length n1) (.slice a2 gx.1.2.length n2) (.slice a3 gx.2.1.length n3) (.slice a4 gx.2.2.length n4) (.slice a5 gy.1.1.length n5) (.slice a6 gy.1.2.length n6) (.slice a7 gy.2.1.length n7) (.slice a8 gy.2.2.length n8)) (.val 0 (.val 1 (.val 2 (.val 3 (.one 4 (.one 5 (.val 6 (.val 7 (.val 8 (.val 9 (.val 10 (.one 11 (.one 12 (.val 13 (.val 14 (.val 15 (.val 16 (.val 17 (.val 18 (.one 19 (.one 20 (.val 21 (.val 22 (.val 23 (.val 24 (.val 25 (.val 26 (.one 27 (.one 28 (.val 29 (.val 30 (.one 31 (.val 32 (.val 33 .done)))))))))))))))))))))))))))))))))) (by kernel_rfl) (by kernel_rfl) HK.out ?_
  repeat (first
    | (refine Sch.tn_q rfl rfl rfl (fun K hK => ?_); go_big_quiet_op; (first | refine hK _ ?_ | refine ⟨_, fun _ _ => rfl, hK _ ?_⟩); clear hK K)
    | (refine Sch.tn_chk _ _ _ rfl rfl rfl rfl rfl ?_; simp only [Act.put, List.setIfInBounds_toArray, List.set_cons_zero, List.set_cons_succ])
    | (refine Sch.tn_load _ _ _ _ _ rfl rfl rfl rfl (by first | exact Tg.da | exact Tg.db) rfl ?_; simp only [Act.put, List.setIfInBounds_toArray, List.set_cons_zero, List.set_cons_succ]))
  generalize wq.drew = wr at *
  refine Sch.tn_e rfl rfl (fun K hK => ?_)
  go_wp2_with fail
  refine (HD1.out _ _ _ _ _ HX.out HH.out).mono ?_
  rintro e' wHD1 ⟨vz, rfl, ho, hb⟩
  obtain ⟨pz, cz, rfl, hrz, -⟩ := ON.row ho
  have HZ := Lib.hid hrz
  replace HX := Lib.hid (HX.out.keep hb)
  replace HY := Lib.hid (HY.out.keep hb)
  replace HG := Lib.hid (HG.out.keep hb)
  replace HH := Lib.hid (HH.out.keep hb)
  replace HK := Lib.hid (HK.out.keep hb)
  replace HB := bel_tr HB hb
  clear hb ho hrz HD1
  refine hK _ _ HK.out ?_
  clear hK K
  refine Sch.tn_e rfl rfl (fun K hK => ?_)
  go_wp2_with fail
  refine (HT1.out _ _ _ _ _ _ _ HX.out.r HH.out HZ.out).mono ?_
  rintro e' wHT1 ⟨rfl, hb⟩
  replace HX := Lib.hid (HX.out.keep hb)
  replace HY := Lib.hid (HY.out.keep hb)
  replace HG := Lib.hid (HG.out.keep hb)
  replace HH := Lib.hid (HH.out.keep hb)
  replace HK := Lib.hid (HK.out.keep hb)
  replace HB := bel_tr HB hb
  clear hb HZ HT1
  refine hK _ _ HK.out ?_
  clear hK K
  repeat (first
    | (refine Sch.tn_q rfl rfl rfl (fun K hK => ?_); go_big_quiet_op; (first | refine hK _ ?_ | refine ⟨_, fun _ _ => rfl, hK _ ?_⟩); clear hK K)
    | (refine Sch.tn_chk _ _ _ rfl rfl rfl rfl rfl ?_; simp only [Act.put, List.setIfInBounds_toArray, List.set_cons_zero, List.set_cons_succ])
    | (refine Sch.tn_load _ _ _ _ _ rfl rfl rfl rfl (by first | exact Tg.da | exact Tg.db) rfl ?_; simp only [Act.put, List.setIfInBounds_toArray, List.set_cons_zero, List.set_cons_succ]))
  refine Sch.tn_e rfl rfl (fun K hK => ?_)
  go_wp2_with fail
  refine (HD2.out _ _ _ _ _ HY.out HG.out).mono ?_
  rintro e' wHD2 ⟨vz, rfl, ho, hb⟩
  obtain ⟨pz, cz, rfl, hrz, -⟩ := ON.row ho
  have HZ := Lib.hid hrz
  replace HX := Lib.hid (HX.out.keep hb)
  replace HY := Lib.hid (HY.out.keep hb)
  replace HG := Lib.hid (HG.out.keep hb)
  replace HH := Lib.hid (HH.out.keep hb)
  replace HK := Lib.hid (HK.out.keep hb)
  replace HB := bel_tr HB hb
  clear hb ho hrz HD2
  refine hK _ _ HK.out ?_
  clear hK K
  refine Sch.tn_e rfl rfl (fun K hK => ?_)
  go_wp2_with fail
  refine (HT2.out _ _ _ _ _ _ _ HY.out.r HG.out HZ.out).mono ?_
  rintro e' wHT2 ⟨rfl, hb⟩
  replace HX := Lib.hid (HX.out.keep hb)
  replace HY := Lib.hid (HY.out.keep hb)
  replace HG := Lib.hid (HG.out.keep hb)
  replace HH := Lib.hid (HH.out.keep hb)
  replace HK := Lib.hid (HK.out.keep hb)
  replace HB := bel_tr HB hb
  clear hb HZ HT2
  refine hK _ _ HK.out ?_
  clear hK K
  repeat (first
    | (refine Sch.tn_q rfl rfl rfl (fun K hK => ?_); go_big_quiet_op; (first | refine hK _ ?_ | refine ⟨_, fun _ _ => rfl, hK _ ?_⟩); clear hK K)
    | (refine Sch.tn_chk _ _ _ rfl rfl rfl rfl rfl ?_; simp only [Act.put, List.setIfInBounds_toArray, List.set_cons_zero, List.set_cons_succ])
    | (refine Sch.tn_load _ _ _ _ _ rfl rfl rfl rfl (by first | exact Tg.da | exact Tg.db) rfl ?_; simp only [Act.put, List.setIfInBounds_toArray, List.set_cons_zero, List.set_cons_succ]))
  refine Sch.tn_e rfl rfl (fun K hK => ?_)
  go_wp2_with fail
  refine (HWr.out _ _ _ _ _ _ _ _ _ HG.out HH.out).mono ?_
  rintro e' wt ⟨rfl, hb⟩
  replace HX := Lib.hid (HX.out.keep hb)
  replace HY := Lib.hid (HY.out.keep hb)
  replace HG := Lib.hid (HG.out.keep hb)
  replace HH := Lib.hid (HH.out.keep hb)
  replace HK := Lib.hid (HK.out.keep hb)
  replace HB := bel_tr HB hb
  clear hb HWr
  refine hK _ _ HK.out ?_
  clear hK K
  refine Sch.tn_e rfl rfl (fun K hK => ?_)
  go_wp2_with fail
  refine (HWy.out _ _ _ _ _ _ _ _ _ HG.out HH.out).mono ?_
  rintro e' wu ⟨rfl, hb⟩
  replace HX := Lib.hid (HX.out.keep hb)
  replace HY := Lib.hid (HY.out.keep hb)
  replace HG := Lib.hid (HG.out.keep hb)
  replace HH := Lib.hid (HH.out.keep hb)
  replace HK := Lib.hid (HK.out.keep hb)
  replace HB := bel_tr HB hb
  clear hb HWy
  refine hK _ _ HK.out ?_
  clear hK K
  repeat (first
    | (refine Sch.tn_q rfl rfl rfl (fun K hK => ?_); go_big_quiet_op; (first | refine hK _ ?_ | refine ⟨_, fun _ _ => rfl, hK _ ?_⟩); clear hK K)
    | (refine Sch.tn_chk _ _ _ rfl rfl rfl rfl rfl ?_; simp only [Act.put, List.setIfInBounds_toArray, List.set_cons_zero, List.set_cons_succ])
    | (refine Sch.tn_load _ _ _ _ _ rfl rfl rfl rfl (by first | exact Tg.da | exact Tg.db) rfl ?_; simp only [Act.put, List.setIfInBounds_toArray, List.set_cons_zero, List.set_cons_succ]))
  refine Sch.tn_e rfl rfl (fun K hK => ?_)
  go_wp2_with fail
  refine (HMr.out _ _ _ _ _ _ _ _ _ HG.out HH.out).mono ?_
  rintro e' wv ⟨x, y, u, v, rfl, ho, hb⟩
  have HM := Lib.hid ho.gx
  replace HX := Lib.hid (HX.out.keep hb)
  replace HY := Lib.hid (HY.out.keep hb)
  replace HG := Lib.hid (HG.out.keep hb)
  replace HH := Lib.hid (HH.out.keep hb)
  replace HK := Lib.hid (HK.out.keep hb)
  replace HB := bel_tr HB hb
  clear hb ho HMr
  refine hK _ _ HK.out ?_
  clear hK K
  refine Sch.tn_e rfl rfl (fun K hK => ?_)
  go_wp2_with fail
  refine (HMy.out _ _ _ _ _ _ _ _ _ _ _ _ _ HG.out HH.out HM.out).mono ?_
  rintro e' ww ⟨rfl, hb⟩
  replace HX := Lib.hid (HX.out.keep hb)
  replace HY := Lib.hid (HY.out.keep hb)
  replace HG := Lib.hid (HG.out.keep hb)
  replace HH := Lib.hid (HH.out.keep hb)
  replace HK := Lib.hid (HK.out.keep hb)
  replace HB := bel_tr HB hb
  clear hb HMy HM
  refine hK _ _ HK.out ?_
  clear hK K
  repeat (first
    | (refine Sch.tn_q rfl rfl rfl (fun K hK => ?_); go_big_quiet_op; (first | refine hK _ ?_ | refine ⟨_, fun _ _ => rfl, hK _ ?_⟩); clear hK K)
    | (refine Sch.tn_chk _ _ _ rfl rfl rfl rfl rfl ?_; simp only [Act.put, List.setIfInBounds_toArray, List.set_cons_zero, List.set_cons_succ])
    | (refine Sch.tn_load _ _ _ _ _ rfl rfl rfl rfl (by first | exact Tg.da | exact Tg.db) rfl ?_; simp only [Act.put, List.setIfInBounds_toArray, List.set_cons_zero, List.set_cons_succ]))
  refine Sch.tn_e rfl rfl (fun K hK => ?_)
  go_wp2_with fail
  refine (known_any _).mono ?_
  rintro e' wx ⟨rfl, hb⟩
  replace HX := Lib.hid (HX.out.keep hb)
  replace HY := Lib.hid (HY.out.keep hb)
  replace HG := Lib.hid (HG.out.keep hb)
  replace HH := Lib.hid (HH.out.keep hb)
  replace HK := Lib.hid (HK.out.keep hb)
  replace HB := bel_tr HB hb
  clear hb
  refine hK _ _ HK.out ?_
  clear hK K
  repeat (first
    | (refine Sch.tn_q rfl rfl rfl (fun K hK => ?_); go_big_quiet_op; (first | refine hK _ ?_ | refine ⟨_, fun _ _ => rfl, hK _ ?_⟩); clear hK K)
    | (refine Sch.tn_chk _ _ _ rfl rfl rfl rfl rfl ?_; simp only [Act.put, List.setIfInBounds_toArray, List.set_cons_zero, List.set_cons_succ])
    | (refine Sch.tn_load _ _ _ _ _ rfl rfl rfl rfl (by first | exact Tg.da | exact Tg.db) rfl ?_; simp only [Act.put, List.setIfInBounds_toArray, List.set_cons_zero, List.set_cons_succ]))
  refine Sch.tn_n ?_
  go_wp2_with fail
  go_ret
  exact ⟨rfl, HB.out⟩
end Go.Proofs.YtgopkffgljiblaaGreat.Dg
