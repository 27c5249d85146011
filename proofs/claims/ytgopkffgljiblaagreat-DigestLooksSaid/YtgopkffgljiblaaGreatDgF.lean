/-
  Layer 16: the reference's Compact.
-/
import Derived.Test.YtgopkffgljiblaaGreatDgE
namespace Go.Proofs.YtgopkffgljiblaaGreat.Dg
set_option linter.unusedVariables false
open Go.RowKit V Go.Sort D Nd Qs Jn
open E (SV getV)
open F (Ct cv cbox Bc)
attribute [local irreducible] Sch.heldN Sch.stepV Sch.stepE

theorem pw_adj {α : Type} {R : α → α → Prop} (ht : ∀ a b c, R a b → R b c → R a c) {l : List α} (h : ∀ j (hj : j + 1 < l.length), R l[j] l[j + 1]) : l.Pairwise R := by
  rw [List.pairwise_iff_getElem]
  have : ∀ n i (hi : i + 1 + n < l.length), R l[i] (l[i + 1 + n]) := by
    intro n
    induction n with
    | zero => exact fun i hi => h i hi
    | succ n ih => exact fun i hi => ht _ _ _ (ih i (by omega)) (h (i + 1 + n) hi)
  intro i j hi hj hij
  have := this (j - i - 1) i (by omega)
  have e : i + 1 + (j - i - 1) = j := by omega
  simpa only [e] using this
theorem comp_no1 {c : Ct} {k : Nat} (hk : k < c.1.length) (h : validR c.1[k] = false) : F.isCompR c = false := by
  rw [← Bool.not_eq_true]
  intro hc
  have := (F.comp_iff.1 hc).1.1.1 _ (List.getElem_mem hk)
  rw [h] at this
  cases this
theorem comp_no2 {c : Ct} {k : Nat} (hk : k + 1 < c.1.length) (h : ¬ (c.1[k]'(by omega)).1 < c.1[k + 1].1) : F.isCompR c = false := by
  rw [← Bool.not_eq_true]
  intro hc
  have h2 : E.Inc c.1 := (F.comp_iff.1 hc).1.1.2
  unfold E.Inc at h2
  rw [List.pairwise_iff_getElem] at h2
  exact h (h2 k (k + 1) (by omega) hk (by omega))
theorem comp_no3 {c : Ct} {k : Nat} (hk : k < c.2.length) (h : validR c.2[k] = false) : F.isCompR c = false := by
  rw [← Bool.not_eq_true]
  intro hc
  have := (F.comp_iff.1 hc).1.2.2 _ (List.getElem_mem hk)
  rw [h] at this
  cases this
theorem comp_no4 {c : Ct} {k : Nat} (hk : k + 1 < c.2.length) (h : less (c.2[k]'(by omega)) c.2[k + 1] = false) : F.isCompR c = false := by
  rw [← Bool.not_eq_true]
  intro hc
  have h2 : Srt c.2 := (F.comp_iff.1 hc).1.2.1
  unfold Srt at h2
  rw [List.pairwise_iff_getElem] at h2
  have := h2 k (k + 1) (by omega) hk (by omega)
  rw [h] at this
  cases this
theorem comp_no5 {c : Ct} {k : Nat} (hk : k < c.2.length) (h : c.2[k].2 ≤ getV c.1 c.2[k].1 + 1) : F.isCompR c = false := by
  rw [← Bool.not_eq_true]
  intro hc
  have := (F.comp_iff.1 hc).2 _ (List.getElem_mem hk)
  omega
theorem vd_adj {v : List Dt} (h1 : ∀ j (hj : j < v.length), validR v[j] = true) (h2 : ∀ j (hj : j + 1 < v.length), (v[j]'(by omega)).1 < v[j + 1].1) : E.Vd v := by
  refine ⟨fun x hx => ?_, pw_adj (R := fun a b : Dt => a.1 < b.1) (fun a b c h k => Int.lt_trans h k) h2⟩
  obtain ⟨j, hj, rfl⟩ := List.mem_iff_getElem.1 hx
  exact h1 j hj
theorem less_tr (a b c : Dt) (h1 : less a b = true) (h2 : less b c = true) : less a c = true := by
  rw [less_iff] at *
  omega
theorem comp_adj {c : Ct} (hv : E.Vd c.1) (h1 : ∀ j (hj : j < c.2.length), validR c.2[j] = true) (h2 : ∀ j (hj : j + 1 < c.2.length), less (c.2[j]'(by omega)) c.2[j + 1] = true) (h3 : ∀ j (hj : j < c.2.length), getV c.1 c.2[j].1 + 1 < c.2[j].2) : F.isCompR c = true := by
  rw [F.comp_iff]
  refine ⟨⟨hv, pw_adj less_tr h2, fun x hx => ?_⟩, fun x hx => ?_⟩
  · obtain ⟨j, hj, rfl⟩ := List.mem_iff_getElem.1 hx
    exact h1 j hj
  · obtain ⟨j, hj, rfl⟩ := List.mem_iff_getElem.1 hx
    exact h3 j hj
theorem ix_vec (b o n c k : Nat) (z : Int) (hz : z = (k : Int)) (hk : k < n) : ∀ w, (Instr.indexAt 23 (.slice (some ⟨b, o, none⟩) n c) (.int .i64 z)).run Tryz.prog w = .ok (.pointer (some ⟨b, o + k * 2, none⟩)) w := by
  intro w
  subst hz
  have hk2 : (k : Int) < (n : Int) := by omega
  go_simp
/-- A context's box, and two dots of a row. -/
def Cw (g : Nat) (x y : Value) (b o o2 : Nat) (q p : Dt) (w : World) : Prop := Bc w g x y ∧ Sd b o q w ∧ Sd b o2 p w
section
variable {g b o o2 : Nat} {x y : Value} {q p : Dt}
theorem Cw.keep {w w' : World} (h : Cw g x y b o o2 q p w) (hb : Below w.heap.size w w') : Cw g x y b o o2 q p w' := ⟨h.1.keep hb, h.2.1.keep hb, h.2.2.keep hb⟩
theorem Cw.v : ∀ w, Cw g x y b o o2 q p w → (Instr.loadAt 23 (.pointer (some ⟨g, 0, none⟩))).run Tryz.prog w = .ok x w := fun w h => load_vec h.1.1
theorem Cw.s : ∀ w, Cw g x y b o o2 q p w → (Instr.loadAt 22 (.pointer (some ⟨g, 1, none⟩))).run Tryz.prog w = .ok y w := fun w h => load_dts h.1.2
theorem Cw.d : ∀ w, Cw g x y b o o2 q p w → (Instr.loadAt 48 (.pointer (some ⟨b, o, none⟩))).run Tryz.prog w = .ok (dv q) w := fun w h => h.2.1.l w
theorem Cw.d2 : ∀ w, Cw g x y b o o2 q p w → (Instr.loadAt 48 (.pointer (some ⟨b, o2, none⟩))).run Tryz.prog w = .ok (dv p) w := fun w h => h.2.2.l w
theorem Cw.l0 : ∀ w, Cw g x y b o o2 q p w → (Instr.loadAt 3 (.pointer (some ⟨b, o, none⟩))).run Tryz.prog w = .ok (.int .i64 q.1) w := fun w h => load_int h.2.1.1
theorem Cw.p0 : ∀ w, Cw g x y b o o2 q p w → (Instr.loadAt 3 (.pointer (some ⟨b, o2, none⟩))).run Tryz.prog w = .ok (.int .i64 p.1) w := fun w h => load_int h.2.2.1
end
/-- The same, and a dot's box. -/
def Cv (g : Nat) (x y : Value) (b o o2 : Nat) (q p : Dt) (g2 : Nat) (w : World) : Prop := Cw g x y b o o2 q p w ∧ Sd g2 0 q w
section
variable {g b o o2 g2 : Nat} {x y : Value} {q p : Dt}
theorem Cv.keep {w w' : World} (h : Cv g x y b o o2 q p g2 w) (hb : Below w.heap.size w w') : Cv g x y b o o2 q p g2 w' := ⟨h.1.keep hb, h.2.keep hb⟩
theorem Cv.v : ∀ w, Cv g x y b o o2 q p g2 w → (Instr.loadAt 23 (.pointer (some ⟨g, 0, none⟩))).run Tryz.prog w = .ok x w := fun w h => load_vec h.1.1.1
theorem Cv.s : ∀ w, Cv g x y b o o2 q p g2 w → (Instr.loadAt 22 (.pointer (some ⟨g, 1, none⟩))).run Tryz.prog w = .ok y w := fun w h => load_dts h.1.1.2
theorem Cv.d2 : ∀ w, Cv g x y b o o2 q p g2 w → (Instr.loadAt 48 (.pointer (some ⟨b, o2, none⟩))).run Tryz.prog w = .ok (dv p) w := fun w h => h.1.2.2.l w
theorem Cv.bx : ∀ w, Cv g x y b o o2 q p g2 w → (Instr.loadAt 48 (.pointer (some ⟨g2, 0, none⟩))).run Tryz.prog w = .ok (dv q) w := fun w h => h.2.l w
theorem Cv.b0 : ∀ w, Cv g x y b o o2 q p g2 w → (Instr.loadAt 3 (.pointer (some ⟨g2, 0, none⟩))).run Tryz.prog w = .ok (.int .i64 q.1) w := fun w h => load_int h.2.1
theorem Cv.b1 : ∀ w, Cv g x y b o o2 q p g2 w → (Instr.loadAt 3 (.pointer (some ⟨g2, 1, none⟩))).run Tryz.prog w = .ok (.int .i64 q.2) w := fun w h => load_int h.2.2
end
theorem sd_row {w w' : World} {b o : Nat} {l : List Dt} (h : RowD w (some ⟨b, o, none⟩) l) (hb : Below w.heap.size w w') (k : Nat) (hk : k < l.length) : Sd b (o + k * 2) l[k] w' := (sd_at h k hk).keep hb
set_option maxRecDepth 100000 in
set_option maxHeartbeats 8000000 in
theorem compR_ref (v ys : List Dt) (x y : Value) (w : World) (h : Kx w x y (v, ys)) (hl : KL 1000000 (v, ys)) :
    Calls Tryz.prog 28 #[cv x y] w fun e w' => e = .returned (.bool (F.isCompR (v, ys))) ∧ Below w.heap.size w w' := by
  obtain ⟨⟨a1, n1, rfl, hr1, -⟩, a2, n2, rfl, hr2, -⟩ := h
  simp only at hr1 hr2 ⊢
  have HNo1 := Lib.hid (fun k (hk : k < v.length) h => comp_no1 (c := (v, ys)) (k := k) hk h)
  have HNo2 := Lib.hid (fun k (hk : k + 1 < v.length) h => comp_no2 (c := (v, ys)) (k := k) hk h)
  have HNo3 := Lib.hid (fun k (hk : k < ys.length) h => comp_no3 (c := (v, ys)) (k := k) hk h)
  have HNo4 := Lib.hid (fun k (hk : k + 1 < ys.length) h => comp_no4 (c := (v, ys)) (k := k) hk h)
  have HNo5 := Lib.hid (fun k (hk : k < ys.length) h => comp_no5 (c := (v, ys)) (k := k) hk h)
  have HYes := Lib.hid (fun h1 h2 h3 h4 => comp_adj (c := (v, ys)) h1 h2 h3 h4)
  have hli1 : (v.length : Int) ≤ 1000000 := by have := hl.1; simp only at this; omega
  have hli2 : (ys.length : Int) ≤ 1000000 := by have := hl.2; simp only at this; omega
  have HLen : Hid (v.length ≤ 1000000 ∧ ys.length ≤ 1000000) := Lib.hid hl
  have HLa := Lib.hid (fun r w h => last_ref v r a1 n1 w h (by have := hl.1; simp only at this; omega))
  have HB := Lib.hid (bel_box w (cbox (.slice a1 v.length n1) (.slice a2 ys.length n2)))
  have HT := Lib.hid (F.two_new w (.slice a1 v.length n1) (.slice a2 ys.length n2))
  have HR1 := Lib.hid (hr1.keep HB.out)
  have HR2 := Lib.hid (hr2.keep HB.out)
  clear hl hr1 hr2
  generalize F.isCompR (v, ys) = R at *
  go_enter Tryz.func28, Tryz.ntmps28
  go_upto_region 1 with fail
  generalize w.alloc (cbox (.slice a1 v.length n1) (.slice a2 ys.length n2)) = w1 at *
  obtain ⟨t0, t1⟩ := HT.out
  go_wp2_with fail
  go_loopw [3] (fun i wr => ∃ k : Nat, k ≤ v.length ∧ i = .int .i64 k ∧ Hid (Below w1.heap.size w1 wr) ∧ Hid (∀ j (hj : j < v.length), j < k → validR v[j] = true) ∧ Hid (∀ j (hj : j + 1 < v.length), j + 1 < k → (v[j]'(by omega)).1 < v[j + 1].1)) (fun i _ => v.length - (intOf i).toNat)
  case atStart => exact ⟨0, Nat.zero_le _, rfl, Below.refl _ _, fun j _ h => by omega, fun j _ h => by omega⟩
  case round =>
    obtain ⟨k, hk, rfl, hh, HV, HI⟩ := hrel
    clear t0 t1
    by_cases hlt : k < v.length
    · have hi0 : (k : Int) < (v.length : Int) := by omega
      have hg : decide ((k : Int) < (v.length : Int)) = true := by simpa using hi0
      obtain ⟨b1, o1, rfl, -⟩ := HR1.out.get (Below.refl _ _) k hlt
      have HQd := Lib.hid (sd_row HR1.out (hh.out) k hlt)
      have hix := ix_vec b1 o1 v.length n1 k (k : Int) rfl hlt
      have HG := Lib.hid (fun w => isDot_ref v[k] w)
      by_cases hk0 : k = 0
      · have hz : decide ((k : Int) > 0) = false := decide_eq_false (by omega)
        have hz2 : decide (0 < k) = false := decide_eq_false (by omega)
        have HK00 := Lib.hid hk0
        clear hk0
        obtain ⟨q, hq⟩ : ∃ q, q = v[k] := ⟨_, rfl⟩
        rw [← hq] at HQd HG
        have HQ := Lib.hid hq
        clear hq
        have HK0 : Hid (Cw w.heap.size (.slice (some ⟨b1, o1, none⟩) v.length n1) (.slice a2 ys.length n2) b1 (o1 + k * 2) (o1 + k * 2) q q wr.drew) := Lib.hid (Cw.keep ⟨HT.out.keep hh.out, HQd.out, HQd.out⟩ (Below.refl _ _).drew)
        have HBd : Hid (Below w1.heap.size w1 wr.drew) := Lib.hid hh.out.drew
        obtain ⟨t0, t1⟩ := HT.out.keep hh.out
        go_wp2_with fail
        clear t0 t1
        refine Sch.wp_region_tn (Cw w.heap.size (.slice (some ⟨b1, o1, none⟩) v.length n1) (.slice a2 ys.length n2) b1 (o1 + k * 2) (o1 + k * 2) q q) (.val 0 (.val 1 (.val 2 (.val 3 (.val 4 (.one 5 (.val 6 (.val 7 (.val 8 (.val 9 (.val 10 (.val 11 (.val 12 (.val 13 (.val 14 (.val 15 (.val 16 (.val 17 (.val 18 (.val 19 (.val 20 (.val 21 (.val 22 (.val 23 (.val 24 (.val 25 (.val 26 .done))))))))))))))))))))))))))) (by kernel_rfl) (by kernel_rfl) HK0.out ?_
        repeat (first
          | (refine Sch.tn_q rfl rfl rfl (fun K hK => ?_); go_big_quiet_op; (first | refine hK _ ?_ | refine ⟨_, fun _ _ => rfl, hK _ ?_⟩); clear hK K)
          | (refine Sch.tn_chk _ _ _ rfl rfl rfl rfl rfl ?_; simp only [Act.put, List.setIfInBounds_toArray, List.set_cons_zero, List.set_cons_succ])
          | (refine Sch.tn_load _ _ _ _ _ rfl rfl rfl rfl (by first | exact Cw.v | exact Cw.d | exact Cw.l0 | exact Cw.p0) rfl ?_; simp only [Act.put, List.setIfInBounds_toArray, List.set_cons_zero, List.set_cons_succ]))
        generalize wr.drew = w2 at *
        refine Sch.tn_e rfl rfl (fun K hK => ?_)
        go_wp2_with fail
        refine (HG.out _).mono ?_
        rintro e w3 ⟨rfl, hb⟩
        replace HK0 := Lib.hid (HK0.out.keep hb)
        replace HBd := bel_tr HBd hb
        clear hb HG
        refine hK _ _ HK0.out ?_
        clear hK K
        rcases hvq : validR q with _ | _
        · have HN : Hid (R = false) := HNo1.out k hlt (by rw [← HQ.out]; exact hvq)
          clear hvq
          repeat (first
            | (refine Sch.tn_q rfl rfl rfl (fun K hK => ?_); go_big_quiet_op; (first | refine hK _ ?_ | refine ⟨_, fun _ _ => rfl, hK _ ?_⟩); clear hK K)
            | (refine Sch.tn_chk _ _ _ rfl rfl rfl rfl rfl ?_; simp only [Act.put, List.setIfInBounds_toArray, List.set_cons_zero, List.set_cons_succ])
            | (refine Sch.tn_load _ _ _ _ _ rfl rfl rfl rfl (by first | exact Cw.v | exact Cw.d | exact Cw.l0 | exact Cw.p0) rfl ?_; simp only [Act.put, List.setIfInBounds_toArray, List.set_cons_zero, List.set_cons_succ])
            | (refine Sch.tn_s _ rfl rfl rfl ?_; simp only [Act.put, List.setIfInBounds_toArray, List.set_cons_zero, List.set_cons_succ])
            | (refine Sch.tn_se _ rfl rfl rfl ?_; simp only [Act.put, List.setIfInBounds_toArray, List.set_cons_zero, List.set_cons_succ]))
          refine Sch.tn_n ?_
          go_wp2_with fail
          go_ret
          exact ⟨by rw [HN.out]; rfl, HB.out.trans (HBd.out.mono HB.out.size)⟩
        · have HVq : Hid (validR v[k] = true) := by show _ = _; rw [← HQ.out]; exact hvq
          have HIq : Hid (∀ j (hj : j + 1 < v.length), j + 1 = k → (v[j]'(by omega)).1 < v[j + 1].1) := fun j hj e => by have := HK00.out; omega
          clear hvq
          repeat (first
            | (refine Sch.tn_q rfl rfl rfl (fun K hK => ?_); go_big_quiet_op; (first | refine hK _ ?_ | refine ⟨_, fun _ _ => rfl, hK _ ?_⟩); clear hK K)
            | (refine Sch.tn_chk _ _ _ rfl rfl rfl rfl rfl ?_; simp only [Act.put, List.setIfInBounds_toArray, List.set_cons_zero, List.set_cons_succ])
            | (refine Sch.tn_load _ _ _ _ _ rfl rfl rfl rfl (by first | exact Cw.v | exact Cw.d | exact Cw.l0 | exact Cw.p0) rfl ?_; simp only [Act.put, List.setIfInBounds_toArray, List.set_cons_zero, List.set_cons_succ])
            | (refine Sch.tn_s _ rfl rfl rfl ?_; simp only [Act.put, List.setIfInBounds_toArray, List.set_cons_zero, List.set_cons_succ])
            | (refine Sch.tn_se _ rfl rfl rfl ?_; simp only [Act.put, List.setIfInBounds_toArray, List.set_cons_zero, List.set_cons_succ]))
          refine Sch.tn_n ?_
          go_wp2_with fail
          go_roundw
          case rel => exact ⟨k + 1, by omega, by go_num, HBd, fun j hj hjk => by
            by_cases e : j = k
            · subst e; exact HVq.out
            · exact HV.out j hj (by omega), fun j hj hjk => by
            by_cases e : j + 1 = k
            · subst e; exact HIq.out j hj rfl
            · exact HI.out j hj (by omega)⟩
          case measure => simp [intOf]; omega
      · have hz : decide ((k : Int) > 0) = true := decide_eq_true (by omega)
        have hz2 : decide (0 < k) = true := decide_eq_true (by omega)
        have HK00 : Hid (k ≠ 0) := hk0
        have hwr : IntKind.i64.wrap ((k : Int) - 1) = (k : Int) - 1 := wrap_mid (by omega) (by have := HLen.out; omega)
        have hix2 := ix_vec b1 o1 v.length n1 (k - 1) ((k : Int) - 1) (by omega) (by omega)
        have HPd := Lib.hid (sd_row HR1.out (hh.out) (k - 1) (by omega))
        
        obtain ⟨q, hq⟩ : ∃ q, q = v[k] := ⟨_, rfl⟩
        obtain ⟨p, hp⟩ : ∃ p, p = v[k - 1] := ⟨_, rfl⟩
        rw [← hq] at HQd HG 
        rw [← hp] at HPd 
        have HQ := Lib.hid hq
        have HP := Lib.hid hp
        clear hq hp
        have HK0 : Hid (Cw w.heap.size (.slice (some ⟨b1, o1, none⟩) v.length n1) (.slice a2 ys.length n2) b1 (o1 + k * 2) (o1 + (k - 1) * 2) q p wr.drew) := Lib.hid (Cw.keep ⟨HT.out.keep hh.out, HQd.out, HPd.out⟩ (Below.refl _ _).drew)
        have HBd : Hid (Below w1.heap.size w1 wr.drew) := Lib.hid hh.out.drew
        obtain ⟨t0, t1⟩ := HT.out.keep hh.out
        go_wp2_with fail
        clear t0 t1
        refine Sch.wp_region_tn (Cw w.heap.size (.slice (some ⟨b1, o1, none⟩) v.length n1) (.slice a2 ys.length n2) b1 (o1 + k * 2) (o1 + (k - 1) * 2) q p) (.val 0 (.val 1 (.val 2 (.val 3 (.val 4 (.one 5 (.val 6 (.val 7 (.val 8 (.val 9 (.val 10 (.val 11 (.val 12 (.val 13 (.val 14 (.val 15 (.val 16 (.val 17 (.val 18 (.val 19 (.val 20 (.val 21 (.val 22 (.val 23 (.val 24 (.val 25 (.val 26 .done))))))))))))))))))))))))))) (by kernel_rfl) (by kernel_rfl) HK0.out ?_
        repeat (first
          | (refine Sch.tn_q rfl rfl rfl (fun K hK => ?_); go_big_quiet_op; (first | refine hK _ ?_ | refine ⟨_, fun _ _ => rfl, hK _ ?_⟩); clear hK K)
          | (refine Sch.tn_chk _ _ _ rfl rfl rfl rfl rfl ?_; simp only [Act.put, List.setIfInBounds_toArray, List.set_cons_zero, List.set_cons_succ])
          | (refine Sch.tn_load _ _ _ _ _ rfl rfl rfl rfl (by first | exact Cw.v | exact Cw.d | exact Cw.l0 | exact Cw.p0) rfl ?_; simp only [Act.put, List.setIfInBounds_toArray, List.set_cons_zero, List.set_cons_succ]))
        generalize wr.drew = w2 at *
        refine Sch.tn_e rfl rfl (fun K hK => ?_)
        go_wp2_with fail
        refine (HG.out _).mono ?_
        rintro e w3 ⟨rfl, hb⟩
        replace HK0 := Lib.hid (HK0.out.keep hb)
        replace HBd := bel_tr HBd hb
        clear hb HG
        refine hK _ _ HK0.out ?_
        clear hK K
        rcases hvq : validR q with _ | _
        · have HN : Hid (R = false) := HNo1.out k hlt (by rw [← HQ.out]; exact hvq)
          clear hvq
          repeat (first
            | (refine Sch.tn_q rfl rfl rfl (fun K hK => ?_); go_big_quiet_op; (first | refine hK _ ?_ | refine ⟨_, fun _ _ => rfl, hK _ ?_⟩); clear hK K)
            | (refine Sch.tn_chk _ _ _ rfl rfl rfl rfl rfl ?_; simp only [Act.put, List.setIfInBounds_toArray, List.set_cons_zero, List.set_cons_succ])
            | (refine Sch.tn_load _ _ _ _ _ rfl rfl rfl rfl (by first | exact Cw.v | exact Cw.d | exact Cw.l0 | exact Cw.p0) rfl ?_; simp only [Act.put, List.setIfInBounds_toArray, List.set_cons_zero, List.set_cons_succ])
            | (refine Sch.tn_s _ rfl rfl rfl ?_; simp only [Act.put, List.setIfInBounds_toArray, List.set_cons_zero, List.set_cons_succ])
            | (refine Sch.tn_se _ rfl rfl rfl ?_; simp only [Act.put, List.setIfInBounds_toArray, List.set_cons_zero, List.set_cons_succ]))
          refine Sch.tn_n ?_
          go_wp2_with fail
          go_ret
          exact ⟨by rw [HN.out]; rfl, HB.out.trans (HBd.out.mono HB.out.size)⟩
        · have HVq : Hid (validR v[k] = true) := by show _ = _; rw [← HQ.out]; exact hvq
          clear hvq
          by_cases hpq : p.1 < q.1
          · have hge : decide (p.1 ≥ q.1) = false := decide_eq_false (by omega)
            have hge2 : decide (q.1 ≤ p.1) = false := decide_eq_false (by omega)
            have HIq : Hid (∀ j (hj : j + 1 < v.length), j + 1 = k → (v[j]'(by omega)).1 < v[j + 1].1) := fun j hj e => by
              subst e
              rw [← HQ.out]
              have := HP.out
              simp only [Nat.add_sub_cancel] at this
              rw [← this]
              exact hpq
            repeat (first
              | (refine Sch.tn_q rfl rfl rfl (fun K hK => ?_); go_big_quiet_op; (first | refine hK _ ?_ | refine ⟨_, fun _ _ => rfl, hK _ ?_⟩); clear hK K)
              | (refine Sch.tn_chk _ _ _ rfl rfl rfl rfl rfl ?_; simp only [Act.put, List.setIfInBounds_toArray, List.set_cons_zero, List.set_cons_succ])
              | (refine Sch.tn_load _ _ _ _ _ rfl rfl rfl rfl (by first | exact Cw.v | exact Cw.d | exact Cw.l0 | exact Cw.p0) rfl ?_; simp only [Act.put, List.setIfInBounds_toArray, List.set_cons_zero, List.set_cons_succ])
              | (refine Sch.tn_s _ rfl rfl rfl ?_; simp only [Act.put, List.setIfInBounds_toArray, List.set_cons_zero, List.set_cons_succ])
              | (refine Sch.tn_se _ rfl rfl rfl ?_; simp only [Act.put, List.setIfInBounds_toArray, List.set_cons_zero, List.set_cons_succ]))
            refine Sch.tn_n ?_
            go_wp2_with fail
            go_roundw
            case rel => exact ⟨k + 1, by omega, by go_num, HBd, fun j hj hjk => by
              by_cases e : j = k
              · subst e; exact HVq.out
              · exact HV.out j hj (by omega), fun j hj hjk => by
              by_cases e : j + 1 = k
              · subst e; exact HIq.out j hj rfl
              · exact HI.out j hj (by omega)⟩
            case measure => simp [intOf]; omega
          · have hge : decide (p.1 ≥ q.1) = true := decide_eq_true (by omega)
            have hge2 : decide (q.1 ≤ p.1) = true := decide_eq_true (by omega)
            have HN : Hid (R = false) := HNo2.out (k - 1) (by omega) (by
              have h1 := HP.out
              have h2 := HQ.out
              have e : k - 1 + 1 = k := by omega
              simp only [e]
              rw [← h1, ← h2]
              first | exact hpq | omega)
            repeat (first
              | (refine Sch.tn_q rfl rfl rfl (fun K hK => ?_); go_big_quiet_op; (first | refine hK _ ?_ | refine ⟨_, fun _ _ => rfl, hK _ ?_⟩); clear hK K)
              | (refine Sch.tn_chk _ _ _ rfl rfl rfl rfl rfl ?_; simp only [Act.put, List.setIfInBounds_toArray, List.set_cons_zero, List.set_cons_succ])
              | (refine Sch.tn_load _ _ _ _ _ rfl rfl rfl rfl (by first | exact Cw.v | exact Cw.d | exact Cw.l0 | exact Cw.p0) rfl ?_; simp only [Act.put, List.setIfInBounds_toArray, List.set_cons_zero, List.set_cons_succ])
              | (refine Sch.tn_s _ rfl rfl rfl ?_; simp only [Act.put, List.setIfInBounds_toArray, List.set_cons_zero, List.set_cons_succ])
              | (refine Sch.tn_se _ rfl rfl rfl ?_; simp only [Act.put, List.setIfInBounds_toArray, List.set_cons_zero, List.set_cons_succ]))
            refine Sch.tn_n ?_
            go_wp2_with fail
            go_ret
            exact ⟨by rw [HN.out]; rfl, HB.out.trans (HBd.out.mono HB.out.size)⟩
    · obtain rfl : k = v.length := by omega
      have HVd := Lib.hid (vd_adj (fun j hj => HV.out j hj hj) (fun j hj => HI.out j hj hj))
      have HGw : Hid (∀ r : Int, IntKind.i64.wrap (getV v r + 1) = getV v r + 1) := fun r => wrap_mid (by have := E.get_ge HVd.out r; omega) (by have := getV_top HVd.out r; omega)
      have hend : ¬ (v.length : Int) < (v.length : Int) := by omega
      obtain ⟨t0, t1⟩ := HT.out.keep hh.out
      obtain ⟨wz, hwz⟩ : ∃ wz, wz = wr := ⟨_, rfl⟩
      rw [← hwz] at hh t0 t1 ⊢
      clear hwz HV HI HNo1 HNo2
      have hhz := hh
      clear hh
      go_wp2_with fail
      go_loopw [4, 5] (fun i _ wr => ∃ k : Nat, k ≤ ys.length ∧ i = .int .i64 k ∧ Hid (Below w1.heap.size w1 wr) ∧ Hid (∀ j (hj : j < ys.length), j < k → validR ys[j] = true ∧ getV v ys[j].1 + 1 < ys[j].2) ∧ Hid (∀ j (hj : j + 1 < ys.length), j + 1 < k → less (ys[j]'(by omega)) ys[j + 1] = true)) (fun i _ _ => ys.length - (intOf i).toNat)
      case atStart => exact ⟨0, Nat.zero_le _, rfl, hhz, fun j _ h => by omega, fun j _ h => by omega⟩
      case round =>
        obtain ⟨k, hk, rfl, hh, HV, HI⟩ := hrel
        clear t0 t1
        by_cases hlt : k < ys.length
        · have hi0 : (k : Int) < (ys.length : Int) := by omega
          have hg : decide ((k : Int) < (ys.length : Int)) = true := by simpa using hi0
          obtain ⟨b1, o1, rfl, -⟩ := HR2.out.get (Below.refl _ _) k hlt
          have HQd := Lib.hid (sd_row HR2.out (hh.out) k hlt)
          have hix := ix_dot b1 o1 ys.length n2 k (k : Int) rfl hlt
          have HG := Lib.hid (fun w => isDot_ref ys[k] w)
          by_cases hk0 : k = 0
          · have hz : decide ((k : Int) > 0) = false := decide_eq_false (by omega)
            have hz2 : decide (0 < k) = false := decide_eq_false (by omega)
            have HK00 := Lib.hid hk0
            clear hk0
            obtain ⟨q, hq⟩ : ∃ q, q = ys[k] := ⟨_, rfl⟩
            rw [← hq] at HQd HG
            have HQ := Lib.hid hq
            clear hq
            have hb0 := bel_box wr (.cells #[.int .i64 q.1, .int .i64 q.2] 48)
            have HK0 : Hid (Cv w.heap.size (.slice a1 v.length n1) (.slice (some ⟨b1, o1, none⟩) ys.length n2) b1 (o1 + k * 2) (o1 + k * 2) q q wr.heap.size (wr.alloc (.cells #[.int .i64 q.1, .int .i64 q.2] 48)).drew) := Lib.hid (Cv.keep ⟨Cw.keep ⟨HT.out.keep hh.out, HQd.out, HQd.out⟩ hb0, dot_new wr q⟩ (Below.refl _ _).drew)
            have HBd : Hid (Below w1.heap.size w1 (wr.alloc (.cells #[.int .i64 q.1, .int .i64 q.2] 48)).drew) := Lib.hid (hh.out.trans (hb0.mono hh.out.size)).drew
            clear hb0
            obtain ⟨c0, c1⟩ := HQd.out
            obtain ⟨t0, t1⟩ := (HT.out.keep hh.out)
            go_upto_region 10 with fail
            clear c0 c1 t0 t1
            generalize wr.alloc (.cells #[.int .i64 q.1, .int .i64 q.2] 48) = w1x at *
            generalize wr.heap.size = gx at *
            go_wp2_with fail
            refine Sch.wp_region_tn (Cv w.heap.size (.slice a1 v.length n1) (.slice (some ⟨b1, o1, none⟩) ys.length n2) b1 (o1 + k * 2) (o1 + k * 2) q q gx) (.val 0 (.one 1 (.val 2 (.val 3 (.val 4 (.val 5 (.val 6 (.val 7 (.val 8 (.val 9 (.val 10 (.val 11 (.val 12 (.val 13 (.one 14 (.val 15 (.val 16 (.val 17 (.val 18 (.val 19 (.val 20 (.val 21 (.val 22 (.val 23 (.val 24 (.one 25 (.val 26 (.val 27 (.val 28 .done))))))))))))))))))))))))))))) (by kernel_rfl) (by kernel_rfl) HK0.out ?_
            repeat (first
              | (refine Sch.tn_q rfl rfl rfl (fun K hK => ?_); go_big_quiet_op; (first | refine hK _ ?_ | refine ⟨_, fun _ _ => rfl, hK _ ?_⟩); clear hK K)
              | (refine Sch.tn_chk _ _ _ rfl rfl rfl rfl rfl ?_; simp only [Act.put, List.setIfInBounds_toArray, List.set_cons_zero, List.set_cons_succ])
              | (refine Sch.tn_load _ _ _ _ _ rfl rfl rfl rfl (by first | exact Cv.v | exact Cv.s | exact Cv.d2 | exact Cv.bx | exact Cv.b0 | exact Cv.b1) rfl ?_; simp only [Act.put, List.setIfInBounds_toArray, List.set_cons_zero, List.set_cons_succ]))
            generalize w1x.drew = w2 at *
            refine Sch.tn_e rfl rfl (fun K hK => ?_)
            go_wp2_with fail
            refine (HG.out _).mono ?_
            rintro e w3 ⟨rfl, hb⟩
            replace HK0 := Lib.hid (HK0.out.keep hb)
            replace HBd := bel_tr HBd hb
            clear hb HG
            refine hK _ _ HK0.out ?_
            clear hK K
            rcases hvq : validR q with _ | _
            · have HN : Hid (R = false) := HNo3.out k hlt (by rw [← HQ.out]; exact hvq)
              clear hvq
              repeat (first
                | (refine Sch.tn_q rfl rfl rfl (fun K hK => ?_); go_big_quiet_op; (first | refine hK _ ?_ | refine ⟨_, fun _ _ => rfl, hK _ ?_⟩); clear hK K)
                | (refine Sch.tn_chk _ _ _ rfl rfl rfl rfl rfl ?_; simp only [Act.put, List.setIfInBounds_toArray, List.set_cons_zero, List.set_cons_succ])
                | (refine Sch.tn_load _ _ _ _ _ rfl rfl rfl rfl (by first | exact Cv.v | exact Cv.s | exact Cv.d2 | exact Cv.bx | exact Cv.b0 | exact Cv.b1) rfl ?_; simp only [Act.put, List.setIfInBounds_toArray, List.set_cons_zero, List.set_cons_succ])
                | (refine Sch.tn_s _ rfl rfl rfl ?_; simp only [Act.put, List.setIfInBounds_toArray, List.set_cons_zero, List.set_cons_succ])
                | (refine Sch.tn_se _ rfl rfl rfl ?_; simp only [Act.put, List.setIfInBounds_toArray, List.set_cons_zero, List.set_cons_succ]))
              refine Sch.tn_n ?_
              go_wp2_with fail
              go_ret
              exact ⟨by rw [HN.out]; rfl, HB.out.trans (HBd.out.mono HB.out.size)⟩
            · have HVq : Hid (validR ys[k] = true) := by show _ = _; rw [← HQ.out]; exact hvq
              have HIq : Hid (∀ j (hj : j + 1 < ys.length), j + 1 = k → less (ys[j]'(by omega)) ys[j + 1] = true) := fun j hj e => by have := HK00.out; omega
              clear hvq
              repeat (first
                | (refine Sch.tn_q rfl rfl rfl (fun K hK => ?_); go_big_quiet_op; (first | refine hK _ ?_ | refine ⟨_, fun _ _ => rfl, hK _ ?_⟩); clear hK K)
                | (refine Sch.tn_chk _ _ _ rfl rfl rfl rfl rfl ?_; simp only [Act.put, List.setIfInBounds_toArray, List.set_cons_zero, List.set_cons_succ])
                | (refine Sch.tn_load _ _ _ _ _ rfl rfl rfl rfl (by first | exact Cv.v | exact Cv.s | exact Cv.d2 | exact Cv.bx | exact Cv.b0 | exact Cv.b1) rfl ?_; simp only [Act.put, List.setIfInBounds_toArray, List.set_cons_zero, List.set_cons_succ])
                | (refine Sch.tn_s _ rfl rfl rfl ?_; simp only [Act.put, List.setIfInBounds_toArray, List.set_cons_zero, List.set_cons_succ])
                | (refine Sch.tn_se _ rfl rfl rfl ?_; simp only [Act.put, List.setIfInBounds_toArray, List.set_cons_zero, List.set_cons_succ]))
              refine Sch.tn_e rfl rfl (fun K hK => ?_)
              go_wp2_with fail
              refine (HLa.out q.1 _ (HR1.out.keep HBd.out)).mono ?_
              rintro e w5 ⟨rfl, hl⟩
              have hb := hl.bel
              clear hl
              replace HK0 := Lib.hid (HK0.out.keep hb)
              replace HBd := bel_tr HBd hb
              clear hb
              refine hK _ _ HK0.out ?_
              clear hK K
              have hw5 := HGw.out q.1
              by_cases hgq : q.2 ≤ getV v q.1 + 1
              · have hge : decide (q.2 ≤ getV v q.1 + 1) = true := decide_eq_true hgq
                have HN : Hid (R = false) := HNo5.out k hlt (by rw [← HQ.out]; exact hgq)
                clear hgq
                generalize getV v q.1 = gq at *
                repeat (first
                  | (refine Sch.tn_q rfl rfl rfl (fun K hK => ?_); go_big_quiet_op; (first | refine hK _ ?_ | refine ⟨_, fun _ _ => rfl, hK _ ?_⟩); clear hK K)
                  | (refine Sch.tn_chk _ _ _ rfl rfl rfl rfl rfl ?_; simp only [Act.put, List.setIfInBounds_toArray, List.set_cons_zero, List.set_cons_succ])
                  | (refine Sch.tn_load _ _ _ _ _ rfl rfl rfl rfl (by first | exact Cv.v | exact Cv.s | exact Cv.d2 | exact Cv.bx | exact Cv.b0 | exact Cv.b1) rfl ?_; simp only [Act.put, List.setIfInBounds_toArray, List.set_cons_zero, List.set_cons_succ])
                  | (refine Sch.tn_s _ rfl rfl rfl ?_; simp only [Act.put, List.setIfInBounds_toArray, List.set_cons_zero, List.set_cons_succ])
                  | (refine Sch.tn_se _ rfl rfl rfl ?_; simp only [Act.put, List.setIfInBounds_toArray, List.set_cons_zero, List.set_cons_succ]))
                refine Sch.tn_n ?_
                go_wp2_with fail
                go_ret
                exact ⟨by rw [HN.out]; rfl, HB.out.trans (HBd.out.mono HB.out.size)⟩
              · have hge : decide (q.2 ≤ getV v q.1 + 1) = false := decide_eq_false hgq
                have HGq : Hid (getV v ys[k].1 + 1 < ys[k].2) := by show _ < _; rw [← HQ.out]; omega
                clear hgq
                generalize getV v q.1 = gq at *
                repeat (first
                  | (refine Sch.tn_q rfl rfl rfl (fun K hK => ?_); go_big_quiet_op; (first | refine hK _ ?_ | refine ⟨_, fun _ _ => rfl, hK _ ?_⟩); clear hK K)
                  | (refine Sch.tn_chk _ _ _ rfl rfl rfl rfl rfl ?_; simp only [Act.put, List.setIfInBounds_toArray, List.set_cons_zero, List.set_cons_succ])
                  | (refine Sch.tn_load _ _ _ _ _ rfl rfl rfl rfl (by first | exact Cv.v | exact Cv.s | exact Cv.d2 | exact Cv.bx | exact Cv.b0 | exact Cv.b1) rfl ?_; simp only [Act.put, List.setIfInBounds_toArray, List.set_cons_zero, List.set_cons_succ])
                  | (refine Sch.tn_s _ rfl rfl rfl ?_; simp only [Act.put, List.setIfInBounds_toArray, List.set_cons_zero, List.set_cons_succ])
                  | (refine Sch.tn_se _ rfl rfl rfl ?_; simp only [Act.put, List.setIfInBounds_toArray, List.set_cons_zero, List.set_cons_succ]))
                refine Sch.tn_n ?_
                go_wp2_with fail
                go_roundw
                case rel => exact ⟨k + 1, by omega, by go_num, HBd, fun j hj hjk => by
                  by_cases e : j = k
                  · subst e; exact ⟨HVq.out, HGq.out⟩
                  · exact HV.out j hj (by omega), fun j hj hjk => by
                  by_cases e : j + 1 = k
                  · subst e; exact HIq.out j hj rfl
                  · exact HI.out j hj (by omega)⟩
                case measure => simp [intOf]; omega
          · have hz : decide ((k : Int) > 0) = true := decide_eq_true (by omega)
            have hz2 : decide (0 < k) = true := decide_eq_true (by omega)
            have HK00 : Hid (k ≠ 0) := hk0
            have hwr : IntKind.i64.wrap ((k : Int) - 1) = (k : Int) - 1 := wrap_mid (by omega) (by have := HLen.out; omega)
            have hix2 := ix_dot b1 o1 ys.length n2 (k - 1) ((k : Int) - 1) (by omega) (by omega)
            have HPd := Lib.hid (sd_row HR2.out (hh.out) (k - 1) (by omega))
            have HBf := Lib.hid (fun w => before_ref (ys[k - 1]) ys[k] w)
            obtain ⟨q, hq⟩ : ∃ q, q = ys[k] := ⟨_, rfl⟩
            obtain ⟨p, hp⟩ : ∃ p, p = ys[k - 1] := ⟨_, rfl⟩
            rw [← hq] at HQd HG HBf
            rw [← hp] at HPd HBf
            have HQ := Lib.hid hq
            have HP := Lib.hid hp
            clear hq hp
            have hb0 := bel_box wr (.cells #[.int .i64 q.1, .int .i64 q.2] 48)
            have HK0 : Hid (Cv w.heap.size (.slice a1 v.length n1) (.slice (some ⟨b1, o1, none⟩) ys.length n2) b1 (o1 + k * 2) (o1 + (k - 1) * 2) q p wr.heap.size (wr.alloc (.cells #[.int .i64 q.1, .int .i64 q.2] 48)).drew) := Lib.hid (Cv.keep ⟨Cw.keep ⟨HT.out.keep hh.out, HQd.out, HPd.out⟩ hb0, dot_new wr q⟩ (Below.refl _ _).drew)
            have HBd : Hid (Below w1.heap.size w1 (wr.alloc (.cells #[.int .i64 q.1, .int .i64 q.2] 48)).drew) := Lib.hid (hh.out.trans (hb0.mono hh.out.size)).drew
            clear hb0
            obtain ⟨c0, c1⟩ := HQd.out
            obtain ⟨t0, t1⟩ := (HT.out.keep hh.out)
            go_upto_region 10 with fail
            clear c0 c1 t0 t1
            generalize wr.alloc (.cells #[.int .i64 q.1, .int .i64 q.2] 48) = w1x at *
            generalize wr.heap.size = gx at *
            go_wp2_with fail
            refine Sch.wp_region_tn (Cv w.heap.size (.slice a1 v.length n1) (.slice (some ⟨b1, o1, none⟩) ys.length n2) b1 (o1 + k * 2) (o1 + (k - 1) * 2) q p gx) (.val 0 (.one 1 (.val 2 (.val 3 (.val 4 (.val 5 (.val 6 (.val 7 (.val 8 (.val 9 (.val 10 (.val 11 (.val 12 (.val 13 (.one 14 (.val 15 (.val 16 (.val 17 (.val 18 (.val 19 (.val 20 (.val 21 (.val 22 (.val 23 (.val 24 (.one 25 (.val 26 (.val 27 (.val 28 .done))))))))))))))))))))))))))))) (by kernel_rfl) (by kernel_rfl) HK0.out ?_
            repeat (first
              | (refine Sch.tn_q rfl rfl rfl (fun K hK => ?_); go_big_quiet_op; (first | refine hK _ ?_ | refine ⟨_, fun _ _ => rfl, hK _ ?_⟩); clear hK K)
              | (refine Sch.tn_chk _ _ _ rfl rfl rfl rfl rfl ?_; simp only [Act.put, List.setIfInBounds_toArray, List.set_cons_zero, List.set_cons_succ])
              | (refine Sch.tn_load _ _ _ _ _ rfl rfl rfl rfl (by first | exact Cv.v | exact Cv.s | exact Cv.d2 | exact Cv.bx | exact Cv.b0 | exact Cv.b1) rfl ?_; simp only [Act.put, List.setIfInBounds_toArray, List.set_cons_zero, List.set_cons_succ]))
            generalize w1x.drew = w2 at *
            refine Sch.tn_e rfl rfl (fun K hK => ?_)
            go_wp2_with fail
            refine (HG.out _).mono ?_
            rintro e w3 ⟨rfl, hb⟩
            replace HK0 := Lib.hid (HK0.out.keep hb)
            replace HBd := bel_tr HBd hb
            clear hb HG
            refine hK _ _ HK0.out ?_
            clear hK K
            rcases hvq : validR q with _ | _
            · have HN : Hid (R = false) := HNo3.out k hlt (by rw [← HQ.out]; exact hvq)
              clear hvq
              repeat (first
                | (refine Sch.tn_q rfl rfl rfl (fun K hK => ?_); go_big_quiet_op; (first | refine hK _ ?_ | refine ⟨_, fun _ _ => rfl, hK _ ?_⟩); clear hK K)
                | (refine Sch.tn_chk _ _ _ rfl rfl rfl rfl rfl ?_; simp only [Act.put, List.setIfInBounds_toArray, List.set_cons_zero, List.set_cons_succ])
                | (refine Sch.tn_load _ _ _ _ _ rfl rfl rfl rfl (by first | exact Cv.v | exact Cv.s | exact Cv.d2 | exact Cv.bx | exact Cv.b0 | exact Cv.b1) rfl ?_; simp only [Act.put, List.setIfInBounds_toArray, List.set_cons_zero, List.set_cons_succ])
                | (refine Sch.tn_s _ rfl rfl rfl ?_; simp only [Act.put, List.setIfInBounds_toArray, List.set_cons_zero, List.set_cons_succ])
                | (refine Sch.tn_se _ rfl rfl rfl ?_; simp only [Act.put, List.setIfInBounds_toArray, List.set_cons_zero, List.set_cons_succ]))
              refine Sch.tn_n ?_
              go_wp2_with fail
              go_ret
              exact ⟨by rw [HN.out]; rfl, HB.out.trans (HBd.out.mono HB.out.size)⟩
            · have HVq : Hid (validR ys[k] = true) := by show _ = _; rw [← HQ.out]; exact hvq
              clear hvq
              repeat (first
                | (refine Sch.tn_q rfl rfl rfl (fun K hK => ?_); go_big_quiet_op; (first | refine hK _ ?_ | refine ⟨_, fun _ _ => rfl, hK _ ?_⟩); clear hK K)
                | (refine Sch.tn_chk _ _ _ rfl rfl rfl rfl rfl ?_; simp only [Act.put, List.setIfInBounds_toArray, List.set_cons_zero, List.set_cons_succ])
                | (refine Sch.tn_load _ _ _ _ _ rfl rfl rfl rfl (by first | exact Cv.v | exact Cv.s | exact Cv.d2 | exact Cv.bx | exact Cv.b0 | exact Cv.b1) rfl ?_; simp only [Act.put, List.setIfInBounds_toArray, List.set_cons_zero, List.set_cons_succ])
                | (refine Sch.tn_s _ rfl rfl rfl ?_; simp only [Act.put, List.setIfInBounds_toArray, List.set_cons_zero, List.set_cons_succ])
                | (refine Sch.tn_se _ rfl rfl rfl ?_; simp only [Act.put, List.setIfInBounds_toArray, List.set_cons_zero, List.set_cons_succ]))
              refine Sch.tn_e rfl rfl (fun K hK => ?_)
              go_wp2_with fail
              refine (HBf.out _).mono ?_
              rintro e w4 ⟨rfl, hl⟩
              have hb := hl.bel
              clear hl
              replace HK0 := Lib.hid (HK0.out.keep hb)
              replace HBd := bel_tr HBd hb
              clear hb
              refine hK _ _ HK0.out ?_
              clear hK K
              rcases hpq : less p q with _ | _
              · have HN : Hid (R = false) := HNo4.out (k - 1) (by omega) (by
                  have h1 := HP.out
                  have h2 := HQ.out
                  have e : k - 1 + 1 = k := by omega
                  simp only [e]
                  rw [← h1, ← h2]
                  first | exact hpq | omega)
                clear hpq
                repeat (first
                  | (refine Sch.tn_q rfl rfl rfl (fun K hK => ?_); go_big_quiet_op; (first | refine hK _ ?_ | refine ⟨_, fun _ _ => rfl, hK _ ?_⟩); clear hK K)
                  | (refine Sch.tn_chk _ _ _ rfl rfl rfl rfl rfl ?_; simp only [Act.put, List.setIfInBounds_toArray, List.set_cons_zero, List.set_cons_succ])
                  | (refine Sch.tn_load _ _ _ _ _ rfl rfl rfl rfl (by first | exact Cv.v | exact Cv.s | exact Cv.d2 | exact Cv.bx | exact Cv.b0 | exact Cv.b1) rfl ?_; simp only [Act.put, List.setIfInBounds_toArray, List.set_cons_zero, List.set_cons_succ])
                  | (refine Sch.tn_s _ rfl rfl rfl ?_; simp only [Act.put, List.setIfInBounds_toArray, List.set_cons_zero, List.set_cons_succ])
                  | (refine Sch.tn_se _ rfl rfl rfl ?_; simp only [Act.put, List.setIfInBounds_toArray, List.set_cons_zero, List.set_cons_succ]))
                refine Sch.tn_n ?_
                go_wp2_with fail
                go_ret
                exact ⟨by rw [HN.out]; rfl, HB.out.trans (HBd.out.mono HB.out.size)⟩
              · have HIq : Hid (∀ j (hj : j + 1 < ys.length), j + 1 = k → less (ys[j]'(by omega)) ys[j + 1] = true) := fun j hj e => by
                  subst e
                  rw [← HQ.out]
                  have := HP.out
                  simp only [Nat.add_sub_cancel] at this
                  rw [← this]
                  exact hpq
                clear hpq
                repeat (first
                  | (refine Sch.tn_q rfl rfl rfl (fun K hK => ?_); go_big_quiet_op; (first | refine hK _ ?_ | refine ⟨_, fun _ _ => rfl, hK _ ?_⟩); clear hK K)
                  | (refine Sch.tn_chk _ _ _ rfl rfl rfl rfl rfl ?_; simp only [Act.put, List.setIfInBounds_toArray, List.set_cons_zero, List.set_cons_succ])
                  | (refine Sch.tn_load _ _ _ _ _ rfl rfl rfl rfl (by first | exact Cv.v | exact Cv.s | exact Cv.d2 | exact Cv.bx | exact Cv.b0 | exact Cv.b1) rfl ?_; simp only [Act.put, List.setIfInBounds_toArray, List.set_cons_zero, List.set_cons_succ])
                  | (refine Sch.tn_s _ rfl rfl rfl ?_; simp only [Act.put, List.setIfInBounds_toArray, List.set_cons_zero, List.set_cons_succ])
                  | (refine Sch.tn_se _ rfl rfl rfl ?_; simp only [Act.put, List.setIfInBounds_toArray, List.set_cons_zero, List.set_cons_succ]))
                refine Sch.tn_e rfl rfl (fun K hK => ?_)
                go_wp2_with fail
                refine (HLa.out q.1 _ (HR1.out.keep HBd.out)).mono ?_
                rintro e w5 ⟨rfl, hl⟩
                have hb := hl.bel
                clear hl
                replace HK0 := Lib.hid (HK0.out.keep hb)
                replace HBd := bel_tr HBd hb
                clear hb
                refine hK _ _ HK0.out ?_
                clear hK K
                have hw5 := HGw.out q.1
                by_cases hgq : q.2 ≤ getV v q.1 + 1
                · have hge : decide (q.2 ≤ getV v q.1 + 1) = true := decide_eq_true hgq
                  have HN : Hid (R = false) := HNo5.out k hlt (by rw [← HQ.out]; exact hgq)
                  clear hgq
                  generalize getV v q.1 = gq at *
                  repeat (first
                    | (refine Sch.tn_q rfl rfl rfl (fun K hK => ?_); go_big_quiet_op; (first | refine hK _ ?_ | refine ⟨_, fun _ _ => rfl, hK _ ?_⟩); clear hK K)
                    | (refine Sch.tn_chk _ _ _ rfl rfl rfl rfl rfl ?_; simp only [Act.put, List.setIfInBounds_toArray, List.set_cons_zero, List.set_cons_succ])
                    | (refine Sch.tn_load _ _ _ _ _ rfl rfl rfl rfl (by first | exact Cv.v | exact Cv.s | exact Cv.d2 | exact Cv.bx | exact Cv.b0 | exact Cv.b1) rfl ?_; simp only [Act.put, List.setIfInBounds_toArray, List.set_cons_zero, List.set_cons_succ])
                    | (refine Sch.tn_s _ rfl rfl rfl ?_; simp only [Act.put, List.setIfInBounds_toArray, List.set_cons_zero, List.set_cons_succ])
                    | (refine Sch.tn_se _ rfl rfl rfl ?_; simp only [Act.put, List.setIfInBounds_toArray, List.set_cons_zero, List.set_cons_succ]))
                  refine Sch.tn_n ?_
                  go_wp2_with fail
                  go_ret
                  exact ⟨by rw [HN.out]; rfl, HB.out.trans (HBd.out.mono HB.out.size)⟩
                · have hge : decide (q.2 ≤ getV v q.1 + 1) = false := decide_eq_false hgq
                  have HGq : Hid (getV v ys[k].1 + 1 < ys[k].2) := by show _ < _; rw [← HQ.out]; omega
                  clear hgq
                  generalize getV v q.1 = gq at *
                  repeat (first
                    | (refine Sch.tn_q rfl rfl rfl (fun K hK => ?_); go_big_quiet_op; (first | refine hK _ ?_ | refine ⟨_, fun _ _ => rfl, hK _ ?_⟩); clear hK K)
                    | (refine Sch.tn_chk _ _ _ rfl rfl rfl rfl rfl ?_; simp only [Act.put, List.setIfInBounds_toArray, List.set_cons_zero, List.set_cons_succ])
                    | (refine Sch.tn_load _ _ _ _ _ rfl rfl rfl rfl (by first | exact Cv.v | exact Cv.s | exact Cv.d2 | exact Cv.bx | exact Cv.b0 | exact Cv.b1) rfl ?_; simp only [Act.put, List.setIfInBounds_toArray, List.set_cons_zero, List.set_cons_succ])
                    | (refine Sch.tn_s _ rfl rfl rfl ?_; simp only [Act.put, List.setIfInBounds_toArray, List.set_cons_zero, List.set_cons_succ])
                    | (refine Sch.tn_se _ rfl rfl rfl ?_; simp only [Act.put, List.setIfInBounds_toArray, List.set_cons_zero, List.set_cons_succ]))
                  refine Sch.tn_n ?_
                  go_wp2_with fail
                  go_roundw
                  case rel => exact ⟨k + 1, by omega, by go_num, HBd, fun j hj hjk => by
                    by_cases e : j = k
                    · subst e; exact ⟨HVq.out, HGq.out⟩
                    · exact HV.out j hj (by omega), fun j hj hjk => by
                    by_cases e : j + 1 = k
                    · subst e; exact HIq.out j hj rfl
                    · exact HI.out j hj (by omega)⟩
                  case measure => simp [intOf]; omega
        · obtain rfl : k = ys.length := by omega
          have HN : Hid (R = true) := HYes.out HVd.out (fun j hj => (HV.out j hj hj).1) (fun j hj => HI.out j hj hj) (fun j hj => (HV.out j hj hj).2)
          have hend : ¬ (ys.length : Int) < (ys.length : Int) := by omega
          obtain ⟨t0, t1⟩ := HT.out.keep hh.out
          have HBd := hh
          go_wp2_with fail
          go_ret
          exact ⟨by rw [HN.out]; rfl, HB.out.trans (HBd.out.mono HB.out.size)⟩
end Go.Proofs.YtgopkffgljiblaaGreat.Dg
