/-
  Layer 16: the reference's within, Valid, Within, Diff.
-/
import Derived.Test.YtgopkffgljiblaaGreatDgF
namespace Go.Proofs.YtgopkffgljiblaaGreat.Dg
set_option linter.unusedVariables false
open Go.RowKit V Go.Sort D Nd Qs Jn
open E (SV getV)
open F (Ct cv cbox Bc)
attribute [local irreducible] Sch.heldN Sch.stepV Sch.stepE

theorem all_no1 {a b : Ct} (ha : F.isCompR a = true) (hb : F.isCompR b = true) {k : Nat} (hk : k < a.1.length) (h : ¬ a.1[k].2 ≤ getV b.1 a.1[k].1) : F.withinC a b = false := by
  rw [within_eq ha hb, Bool.and_eq_false_iff]
  left
  rw [← Bool.not_eq_true, List.all_eq_true]
  exact fun hh => h (of_decide_eq_true (hh _ (List.getElem_mem hk)))
theorem all_no2 {a b : Ct} (ha : F.isCompR a = true) (hb : F.isCompR b = true) {k : Nat} (hk : k < a.2.length) (h : hasR b a.2[k] = false) : F.withinC a b = false := by
  rw [within_eq ha hb, Bool.and_eq_false_iff]
  right
  rw [← Bool.not_eq_true, List.all_eq_true]
  intro hh
  have := hh _ (List.getElem_mem hk)
  rw [h] at this
  cases this
theorem all_yes {a b : Ct} (ha : F.isCompR a = true) (hb : F.isCompR b = true) (h1 : ∀ j (hj : j < a.1.length), a.1[j].2 ≤ getV b.1 a.1[j].1) (h2 : ∀ j (hj : j < a.2.length), hasR b a.2[j] = true) : F.withinC a b = true := by
  rw [within_eq ha hb, Bool.and_eq_true, List.all_eq_true, List.all_eq_true]
  constructor
  · intro x hx
    obtain ⟨j, hj, rfl⟩ := List.mem_iff_getElem.1 hx
    exact decide_eq_true (h1 j hj)
  · intro x hx
    obtain ⟨j, hj, rfl⟩ := List.mem_iff_getElem.1 hx
    exact h2 j hj
/-- Two contexts' boxes, and a dot of a row. -/
def Tw (g g2 : Nat) (x y u v : Value) (b o : Nat) (q : Dt) (w : World) : Prop := Bc w g x y ∧ Bc w g2 u v ∧ Sd b o q w
section
variable {g g2 b o : Nat} {x y u v : Value} {q : Dt}
theorem Tw.keep {w w' : World} (h : Tw g g2 x y u v b o q w) (hb : Below w.heap.size w w') : Tw g g2 x y u v b o q w' := ⟨h.1.keep hb, h.2.1.keep hb, h.2.2.keep hb⟩
theorem Tw.lv : ∀ w, Tw g g2 x y u v b o q w → (Instr.loadAt 23 (.pointer (some ⟨g, 0, none⟩))).run Tryz.prog w = .ok x w := fun w h => load_vec h.1.1
theorem Tw.lv2 : ∀ w, Tw g g2 x y u v b o q w → (Instr.loadAt 23 (.pointer (some ⟨g2, 0, none⟩))).run Tryz.prog w = .ok u w := fun w h => load_vec h.2.1.1
theorem Tw.ls : ∀ w, Tw g g2 x y u v b o q w → (Instr.loadAt 22 (.pointer (some ⟨g, 1, none⟩))).run Tryz.prog w = .ok y w := fun w h => load_dts h.1.2
theorem Tw.ls2 : ∀ w, Tw g g2 x y u v b o q w → (Instr.loadAt 22 (.pointer (some ⟨g2, 1, none⟩))).run Tryz.prog w = .ok v w := fun w h => load_dts h.2.1.2
theorem Tw.lc2 : ∀ w, Tw g g2 x y u v b o q w → (Instr.loadAt 25 (.pointer (some ⟨g2, 0, none⟩))).run Tryz.prog w = .ok (cv u v) w := fun w h => F.load_ctx h.2.1
theorem Tw.ld : ∀ w, Tw g g2 x y u v b o q w → (Instr.loadAt 48 (.pointer (some ⟨b, o, none⟩))).run Tryz.prog w = .ok (dv q) w := fun w h => h.2.2.l w
theorem Tw.l0 : ∀ w, Tw g g2 x y u v b o q w → (Instr.loadAt 3 (.pointer (some ⟨b, o, none⟩))).run Tryz.prog w = .ok (.int .i64 q.1) w := fun w h => load_int h.2.2.1
theorem Tw.l1 : ∀ w, Tw g g2 x y u v b o q w → (Instr.loadAt 3 (.pointer (some ⟨b, o + 1, none⟩))).run Tryz.prog w = .ok (.int .i64 q.2) w := fun w h => load_int h.2.2.2
end
set_option maxRecDepth 100000 in
set_option maxHeartbeats 8000000 in
theorem withinR_ref (A B : Ct) (ha : F.isCompR A = true) (hb : F.isCompR B = true) (x y u v : Value) (w : World) (h : Kx w x y A) (h2 : Kx w u v B) (hl : KL 1000000 A) (hm : KL 1000000 B) :
    Calls Tryz.prog 29 #[cv x y, cv u v] w fun e w' => e = .returned (.bool (F.withinC A B)) ∧ Below w.heap.size w w' := by
  have HK2 := Lib.hid h2
  obtain ⟨⟨a1, n1, rfl, hr1, -⟩, a2, n2, rfl, hr2, -⟩ := h
  obtain ⟨⟨a3, n3, rfl, hr3, -⟩, a4, n4, rfl, hr4, -⟩ := h2
  have HNo1 := Lib.hid (fun k (hk : k < A.1.length) h => all_no1 ha hb (k := k) hk h)
  have HNo2 := Lib.hid (fun k (hk : k < A.2.length) h => all_no2 ha hb (k := k) hk h)
  have HYes := Lib.hid (fun h1 h2 => all_yes ha hb h1 h2)
  have HVal : Hid (∀ k (hk : k < A.1.length), A.1[k].2 ≤ 4294967295 ∧ 0 < A.1[k].2) := fun k hk => by
    have := valid_iff.1 ((comp_vcC ha).1.1 _ (List.getElem_mem hk))
    exact ⟨this.2.2.2, this.2.2.1⟩
  have HGap := Lib.hid (fun r => gap hb r)
  have HGe0 := Lib.hid (fun r => E.get_ge (comp_vcC hb).1 r)
  have HGt0 := Lib.hid (fun r => getV_top (comp_vcC hb).1 r)
  have HLa := Lib.hid (fun r w h => last_ref B.1 r a3 n3 w h (by have := hm.1; omega))
  have HHa := Lib.hid (fun d w h => hasR_ref B d (.slice a3 B.1.length n3) (.slice a4 B.2.length n4) w h hm)
  have hli1 : (A.1.length : Int) ≤ 1000000 := by have := hl.1; omega
  have hli2 : (A.2.length : Int) ≤ 1000000 := by have := hl.2; omega
  have hb0 := bel_box w (cbox (.slice a1 A.1.length n1) (.slice a2 A.2.length n2))
  have hsz : (w.alloc (cbox (.slice a1 A.1.length n1) (.slice a2 A.2.length n2))).heap.size = w.heap.size + 1 := by simp
  have hb1 := bel_box (w.alloc (cbox (.slice a1 A.1.length n1) (.slice a2 A.2.length n2))) (cbox (.slice a3 B.1.length n3) (.slice a4 B.2.length n4))
  have HS := Lib.hid (F.two_new (w.alloc (cbox (.slice a1 A.1.length n1) (.slice a2 A.2.length n2))) (.slice a3 B.1.length n3) (.slice a4 B.2.length n4))
  rw [hsz] at HS
  have HT := Lib.hid ((F.two_new w (.slice a1 A.1.length n1) (.slice a2 A.2.length n2)).keep hb1)
  have HB := bel_tr (Lib.hid hb0) hb1
  replace HK2 := Lib.hid (HK2.out.keep HB.out)
  have HR1 := Lib.hid (hr1.keep HB.out)
  have HR2 := Lib.hid (hr2.keep HB.out)
  have HR3 := Lib.hid (hr3.keep HB.out)
  clear ha hb hl hm hr1 hr2 hr3 hr4 hb0 hb1 hsz
  generalize F.withinC A B = R at *
  go_enter Tryz.func29, Tryz.ntmps29
  go_upto_region 1 with fail
  generalize (w.alloc (cbox (.slice a1 A.1.length n1) (.slice a2 A.2.length n2))).alloc (cbox (.slice a3 B.1.length n3) (.slice a4 B.2.length n4)) = w1 at *
  obtain ⟨t0, t1⟩ := HT.out
  go_wp2_with fail
  clear t0 t1
  go_loopw [5, 6, 7] (fun i _ _ wr => ∃ k : Nat, k ≤ A.1.length ∧ i = .int .i64 k ∧ Hid (Below w1.heap.size w1 wr) ∧ Hid (∀ j (hj : j < A.1.length), j < k → A.1[j].2 ≤ getV B.1 A.1[j].1)) (fun i _ _ _ => A.1.length - (intOf i).toNat)
  case atStart => exact ⟨0, Nat.zero_le _, rfl, Below.refl _ _, fun j _ h => by omega⟩
  case round =>
    obtain ⟨k, hk, rfl, hh, HV⟩ := hrel
    by_cases hlt : k < A.1.length
    · have hi0 : (k : Int) < (A.1.length : Int) := by omega
      have hg : decide ((k : Int) < (A.1.length : Int)) = true := by simpa using hi0
      obtain ⟨b1, o1, rfl, -⟩ := HR1.out.get (Below.refl _ _) k hlt
      have HQd := Lib.hid (sd_row HR1.out hh.out k hlt)
      have hix := ix_vec b1 o1 A.1.length n1 k (k : Int) rfl hlt
      have HNo := Lib.hid (fun h => HNo1.out k hlt h)
      have HVq := Lib.hid (HVal.out k hlt)
      have HLq := Lib.hid (fun w h => HLa.out (A.1[k].1) w h)
      have HGp := Lib.hid (HGap.out A.1[k].1)
      have HGe := Lib.hid (HGe0.out A.1[k].1)
      have HGt := Lib.hid (HGt0.out A.1[k].1)
      obtain ⟨q, hq⟩ : ∃ q, q = A.1[k] := ⟨_, rfl⟩
      rw [← hq] at HQd HNo HVq HLq HGp HGe HGt
      have HQ := Lib.hid hq
      clear hq
      have HK0 : Hid (Tw w.heap.size (w.heap.size + 1) (.slice (some ⟨b1, o1, none⟩) A.1.length n1) (.slice a2 A.2.length n2) (.slice a3 B.1.length n3) (.slice a4 B.2.length n4) b1 (o1 + k * 2) q wr) := Lib.hid ⟨HT.out.keep hh.out, HS.out.keep hh.out, HQd.out⟩
      have HBd := hh
      obtain ⟨⟨t0, t1⟩, ⟨t2, t3⟩, t4, t5⟩ := HK0.out
      go_wp2_with fail
      clear t0 t1 t2 t3 t4 t5
      have hd := (Below.refl wr.heap.size wr).drew
      replace HK0 := Lib.hid (HK0.out.keep hd)
      replace HBd := bel_tr HBd hd
      clear hd
      refine Sch.wp_region_tn (Tw w.heap.size (w.heap.size + 1) (.slice (some ⟨b1, o1, none⟩) A.1.length n1) (.slice a2 A.2.length n2) (.slice a3 B.1.length n3) (.slice a4 B.2.length n4) b1 (o1 + k * 2) q) (.val 0 (.val 1 (.val 2 (.val 3 (.val 4 (.val 5 (.val 6 (.val 7 (.one 8 (.val 9 .done)))))))))) (by kernel_rfl) (by kernel_rfl) HK0.out ?_
      repeat (first
        | (refine Sch.tn_q rfl rfl rfl (fun K hK => ?_); go_big_quiet_op; (first | refine hK _ ?_ | refine ⟨_, fun _ _ => rfl, hK _ ?_⟩); clear hK K)
        | (refine Sch.tn_chk _ _ _ rfl rfl rfl rfl rfl ?_; simp only [Act.put, List.setIfInBounds_toArray, List.set_cons_zero, List.set_cons_succ])
        | (refine Sch.tn_load _ _ _ _ _ rfl rfl rfl rfl (by first | exact Tw.lv | exact Tw.lv2 | exact Tw.ls | exact Tw.ls2 | exact Tw.lc2 | exact Tw.ld | exact Tw.l0 | exact Tw.l1) rfl ?_; simp only [Act.put, List.setIfInBounds_toArray, List.set_cons_zero, List.set_cons_succ]))
      generalize wr.drew = w2 at *
      refine Sch.tn_e rfl rfl (fun K hK => ?_)
      go_wp2_with fail
      refine (HLq.out _ (HR3.out.keep HBd.out)).mono ?_
      rintro e w3 ⟨rfl, hl⟩
      have hb := hl.bel
      replace HK0 := Lib.hid (HK0.out.keep hb)
      replace HBd := bel_tr HBd hb
      clear hb hl
      refine hK _ _ HK0.out ?_
      clear hK K
      repeat (first
        | (refine Sch.tn_q rfl rfl rfl (fun K hK => ?_); go_big_quiet_op; (first | refine hK _ ?_ | refine ⟨_, fun _ _ => rfl, hK _ ?_⟩); clear hK K)
        | (refine Sch.tn_chk _ _ _ rfl rfl rfl rfl rfl ?_; simp only [Act.put, List.setIfInBounds_toArray, List.set_cons_zero, List.set_cons_succ])
        | (refine Sch.tn_load _ _ _ _ _ rfl rfl rfl rfl (by first | exact Tw.lv | exact Tw.lv2 | exact Tw.ls | exact Tw.ls2 | exact Tw.lc2 | exact Tw.ld | exact Tw.l0 | exact Tw.l1) rfl ?_; simp only [Act.put, List.setIfInBounds_toArray, List.set_cons_zero, List.set_cons_succ]))
      refine Sch.tn_n ?_
      generalize hgq : getV B.1 q.1 = gq at *
      have HGq := Lib.hid hgq
      clear hgq
      obtain ⟨⟨t0, t1⟩, ⟨t2, t3⟩, t4, t5⟩ := HK0.out
      by_cases hle : q.2 ≤ gq
      · have hleb : decide (q.2 ≤ gq) = true := decide_eq_true hle
        have HLe := Lib.hid hle
        clear hle
        go_wp2_with fail
        clear t0 t1 t2 t3 t4 t5
        go_roundw
        case rel => exact ⟨k + 1, by omega, by go_num, HBd, fun j hj hjk => by
          by_cases e : j = k
          · subst e; rw [← HQ.out, HGq.out]; exact HLe.out
          · exact HV.out j hj (by omega)⟩
        case measure => simp [intOf]; omega
      · have hleb : decide (q.2 ≤ gq) = false := decide_eq_false hle
        have HN : Hid (R = false) := HNo.out (by first | exact hle | omega)
        have hws : IntKind.i64.wrap (q.2 - gq) = q.2 - gq := by have h1 := HVq.out; have h2 := HGe.out; exact wrap_mid (by omega) (by omega)
        have hwa : IntKind.i64.wrap (gq + 1) = gq + 1 := by have h1 := HGt.out; have h2 := HGe.out; exact wrap_mid (by omega) (by omega)
        have hle1 : decide (gq + 1 ≤ q.2) = true := decide_eq_true (by omega)
        clear hle
        go_wp2_with fail
        clear t0 t1 t2 t3 t4 t5
        have hd := (Below.refl w3.heap.size w3).drew
        replace HK0 := Lib.hid (HK0.out.keep hd)
        replace HBd := bel_tr HBd hd
        clear hd
        by_cases hgt : q.2 - gq > (B.2.length : Int)
        · have hgtb : decide (q.2 - gq > (B.2.length : Int)) = true := decide_eq_true hgt
          have hgtb2 : decide ((B.2.length : Int) < q.2 - gq) = true := decide_eq_true hgt
          clear hgt
          refine Sch.wp_region_tn (Tw w.heap.size (w.heap.size + 1) (.slice (some ⟨b1, o1, none⟩) A.1.length n1) (.slice a2 A.2.length n2) (.slice a3 B.1.length n3) (.slice a4 B.2.length n4) b1 (o1 + k * 2) q) (.val 0 (.val 1 (.val 2 (.val 3 (.val 4 (.val 5 (.val 6 (.val 7 (.val 8 (.val 9 (.val 10 (.val 11 .done)))))))))))) (by kernel_rfl) (by kernel_rfl) HK0.out ?_
          repeat (first
            | (refine Sch.tn_q rfl rfl rfl (fun K hK => ?_); go_big_quiet_op; (first | refine hK _ ?_ | refine ⟨_, fun _ _ => rfl, hK _ ?_⟩); clear hK K)
            | (refine Sch.tn_chk _ _ _ rfl rfl rfl rfl rfl ?_; simp only [Act.put, List.setIfInBounds_toArray, List.set_cons_zero, List.set_cons_succ])
            | (refine Sch.tn_load _ _ _ _ _ rfl rfl rfl rfl (by first | exact Tw.lv | exact Tw.lv2 | exact Tw.ls | exact Tw.ls2 | exact Tw.lc2 | exact Tw.ld | exact Tw.l0 | exact Tw.l1) rfl ?_; simp only [Act.put, List.setIfInBounds_toArray, List.set_cons_zero, List.set_cons_succ]))
          refine Sch.tn_n ?_
          go_wp2_with fail
          go_ret
          exact ⟨by rw [HN.out]; rfl, HB.out.trans (HBd.out.mono HB.out.size)⟩
        · have hgtb : decide (q.2 - gq > (B.2.length : Int)) = false := decide_eq_false hgt
          have hgtb2 : decide ((B.2.length : Int) < q.2 - gq) = false := decide_eq_false hgt
          clear hgt
          refine Sch.wp_region_tn (Tw w.heap.size (w.heap.size + 1) (.slice (some ⟨b1, o1, none⟩) A.1.length n1) (.slice a2 A.2.length n2) (.slice a3 B.1.length n3) (.slice a4 B.2.length n4) b1 (o1 + k * 2) q) (.val 0 (.val 1 (.val 2 (.val 3 (.val 4 (.val 5 (.val 6 (.val 7 (.val 8 (.val 9 (.val 10 (.val 11 .done)))))))))))) (by kernel_rfl) (by kernel_rfl) HK0.out ?_
          repeat (first
            | (refine Sch.tn_q rfl rfl rfl (fun K hK => ?_); go_big_quiet_op; (first | refine hK _ ?_ | refine ⟨_, fun _ _ => rfl, hK _ ?_⟩); clear hK K)
            | (refine Sch.tn_chk _ _ _ rfl rfl rfl rfl rfl ?_; simp only [Act.put, List.setIfInBounds_toArray, List.set_cons_zero, List.set_cons_succ])
            | (refine Sch.tn_load _ _ _ _ _ rfl rfl rfl rfl (by first | exact Tw.lv | exact Tw.lv2 | exact Tw.ls | exact Tw.ls2 | exact Tw.lc2 | exact Tw.ld | exact Tw.l0 | exact Tw.l1) rfl ?_; simp only [Act.put, List.setIfInBounds_toArray, List.set_cons_zero, List.set_cons_succ]))
          refine Sch.tn_n ?_
          generalize w3.drew = w4 at *
          obtain ⟨⟨t0, t1⟩, ⟨t2, t3⟩, t4, t5⟩ := HK0.out
          go_wp2_with fail
          clear t0 t1 t2 t3 t4 t5
          clear HQd hh HV HNo
          obtain ⟨wz, hwz⟩ : ∃ wz, wz = w4 := ⟨_, rfl⟩
          rw [← hwz] at HK0 HBd ⊢
          clear hwz
          go_loopw [7] (fun i wr => i = .int .i64 (gq + 1) ∧ wr = wz) (fun _ _ => 0)
          case atStart => exact ⟨rfl, rfl⟩
          case round =>
            obtain ⟨rfl, rfl⟩ := hrel
            obtain ⟨⟨t0, t1⟩, ⟨t2, t3⟩, t4, t5⟩ := HK0.out
            have HHq := Lib.hid (fun w h => HHa.out (q.1, gq + 1) w h)
            rw [HGp.out] at HHq
            go_wp2_with fail
            clear t0 t1 t2 t3 t4 t5
            have hd := (Below.refl wr.heap.size wr).drew
            replace HK0 := Lib.hid (HK0.out.keep hd)
            replace HBd := bel_tr HBd hd
            clear hd
            refine Sch.wp_region_tn (Tw w.heap.size (w.heap.size + 1) (.slice (some ⟨b1, o1, none⟩) A.1.length n1) (.slice a2 A.2.length n2) (.slice a3 B.1.length n3) (.slice a4 B.2.length n4) b1 (o1 + k * 2) q) (.val 0 (.val 1 (.val 2 (.val 3 (.val 4 (.val 5 (.val 6 (.val 7 (.val 8 (.one 9 (.val 10 .done))))))))))) (by kernel_rfl) (by kernel_rfl) HK0.out ?_
            repeat (first
              | (refine Sch.tn_q rfl rfl rfl (fun K hK => ?_); go_big_quiet_op; (first | refine hK _ ?_ | refine ⟨_, fun _ _ => rfl, hK _ ?_⟩); clear hK K)
              | (refine Sch.tn_chk _ _ _ rfl rfl rfl rfl rfl ?_; simp only [Act.put, List.setIfInBounds_toArray, List.set_cons_zero, List.set_cons_succ])
              | (refine Sch.tn_load _ _ _ _ _ rfl rfl rfl rfl (by first | exact Tw.lv | exact Tw.lv2 | exact Tw.ls | exact Tw.ls2 | exact Tw.lc2 | exact Tw.ld | exact Tw.l0 | exact Tw.l1) rfl ?_; simp only [Act.put, List.setIfInBounds_toArray, List.set_cons_zero, List.set_cons_succ]))
            generalize World.drew _ = w5 at *
            refine Sch.tn_e rfl rfl (fun K hK => ?_)
            go_wp2_with fail
            refine (HHq.out _ (HK2.out.keep HBd.out)).mono ?_
            rintro e w6 ⟨rfl, hb⟩
            replace HK0 := Lib.hid (HK0.out.keep hb)
            replace HBd := bel_tr HBd hb
            clear hb
            refine hK _ _ HK0.out ?_
            clear hK K
            repeat (first
              | (refine Sch.tn_q rfl rfl rfl (fun K hK => ?_); go_big_quiet_op; (first | refine hK _ ?_ | refine ⟨_, fun _ _ => rfl, hK _ ?_⟩); clear hK K)
              | (refine Sch.tn_chk _ _ _ rfl rfl rfl rfl rfl ?_; simp only [Act.put, List.setIfInBounds_toArray, List.set_cons_zero, List.set_cons_succ])
              | (refine Sch.tn_load _ _ _ _ _ rfl rfl rfl rfl (by first | exact Tw.lv | exact Tw.lv2 | exact Tw.ls | exact Tw.ls2 | exact Tw.lc2 | exact Tw.ld | exact Tw.l0 | exact Tw.l1) rfl ?_; simp only [Act.put, List.setIfInBounds_toArray, List.set_cons_zero, List.set_cons_succ]))
            refine Sch.tn_n ?_
            go_wp2_with fail
            go_ret
            exact ⟨by rw [HN.out]; rfl, HB.out.trans (HBd.out.mono HB.out.size)⟩
    · obtain rfl : k = A.1.length := by omega
      have hend : ¬ (A.1.length : Int) < (A.1.length : Int) := by omega
      have HV1 : Hid (∀ j (hj : j < A.1.length), A.1[j].2 ≤ getV B.1 A.1[j].1) := fun j hj => HV.out j hj hj
      obtain ⟨t0, t1⟩ := HT.out.keep hh.out
      obtain ⟨wz, hwz⟩ : ∃ wz, wz = wr := ⟨_, rfl⟩
      rw [← hwz] at hh t0 t1 ⊢
      clear hwz HV
      have hhz := hh
      clear hh
      go_wp2_with fail
      clear t0 t1
      go_loopw [8] (fun i wr => ∃ k : Nat, k ≤ A.2.length ∧ i = .int .i64 k ∧ Hid (Below w1.heap.size w1 wr) ∧ Hid (∀ j (hj : j < A.2.length), j < k → hasR B A.2[j] = true)) (fun i _ => A.2.length - (intOf i).toNat)
      case atStart => exact ⟨0, Nat.zero_le _, rfl, hhz, fun j _ h => by omega⟩
      case round =>
        obtain ⟨k, hk, rfl, hh, HV2⟩ := hrel
        by_cases hlt : k < A.2.length
        · have hi0 : (k : Int) < (A.2.length : Int) := by omega
          have hg : decide ((k : Int) < (A.2.length : Int)) = true := by simpa using hi0
          obtain ⟨b1, o1, rfl, -⟩ := HR2.out.get (Below.refl _ _) k hlt
          have HQd := Lib.hid (sd_row HR2.out hh.out k hlt)
          have hix := ix_dot b1 o1 A.2.length n2 k (k : Int) rfl hlt
          have HNo := Lib.hid (fun h => HNo2.out k hlt h)
          have HHq := Lib.hid (fun w h => HHa.out (A.2[k]) w h)
          obtain ⟨q, hq⟩ : ∃ q, q = A.2[k] := ⟨_, rfl⟩
          rw [← hq] at HQd HNo HHq
          have HQ := Lib.hid hq
          clear hq
          have HK0 : Hid (Tw w.heap.size (w.heap.size + 1) (.slice a1 A.1.length n1) (.slice (some ⟨b1, o1, none⟩) A.2.length n2) (.slice a3 B.1.length n3) (.slice a4 B.2.length n4) b1 (o1 + k * 2) q wr) := Lib.hid ⟨HT.out.keep hh.out, HS.out.keep hh.out, HQd.out⟩
          have HBd := hh
          obtain ⟨⟨t0, t1⟩, ⟨t2, t3⟩, t4, t5⟩ := HK0.out
          go_wp2_with fail
          clear t0 t1 t2 t3 t4 t5
          have hd := (Below.refl wr.heap.size wr).drew
          replace HK0 := Lib.hid (HK0.out.keep hd)
          replace HBd := bel_tr HBd hd
          clear hd
          refine Sch.wp_region_tn (Tw w.heap.size (w.heap.size + 1) (.slice a1 A.1.length n1) (.slice (some ⟨b1, o1, none⟩) A.2.length n2) (.slice a3 B.1.length n3) (.slice a4 B.2.length n4) b1 (o1 + k * 2) q) (.val 0 (.val 1 (.val 2 (.val 3 (.val 4 (.val 5 (.one 6 (.val 7 .done)))))))) (by kernel_rfl) (by kernel_rfl) HK0.out ?_
          repeat (first
            | (refine Sch.tn_q rfl rfl rfl (fun K hK => ?_); go_big_quiet_op; (first | refine hK _ ?_ | refine ⟨_, fun _ _ => rfl, hK _ ?_⟩); clear hK K)
            | (refine Sch.tn_chk _ _ _ rfl rfl rfl rfl rfl ?_; simp only [Act.put, List.setIfInBounds_toArray, List.set_cons_zero, List.set_cons_succ])
            | (refine Sch.tn_load _ _ _ _ _ rfl rfl rfl rfl (by first | exact Tw.lv | exact Tw.lv2 | exact Tw.ls | exact Tw.ls2 | exact Tw.lc2 | exact Tw.ld | exact Tw.l0 | exact Tw.l1) rfl ?_; simp only [Act.put, List.setIfInBounds_toArray, List.set_cons_zero, List.set_cons_succ]))
          generalize wr.drew = w2 at *
          refine Sch.tn_e rfl rfl (fun K hK => ?_)
          go_wp2_with fail
          refine (HHq.out _ (HK2.out.keep HBd.out)).mono ?_
          rintro e w3 ⟨rfl, hb⟩
          
          replace HK0 := Lib.hid (HK0.out.keep hb)
          replace HBd := bel_tr HBd hb
          clear hb
          refine hK _ _ HK0.out ?_
          clear hK K
          rcases hhr : hasR B q with _ | _
          · have HN : Hid (R = false) := HNo.out hhr
            clear hhr
            repeat (first
              | (refine Sch.tn_q rfl rfl rfl (fun K hK => ?_); go_big_quiet_op; (first | refine hK _ ?_ | refine ⟨_, fun _ _ => rfl, hK _ ?_⟩); clear hK K)
              | (refine Sch.tn_chk _ _ _ rfl rfl rfl rfl rfl ?_; simp only [Act.put, List.setIfInBounds_toArray, List.set_cons_zero, List.set_cons_succ])
              | (refine Sch.tn_load _ _ _ _ _ rfl rfl rfl rfl (by first | exact Tw.lv | exact Tw.lv2 | exact Tw.ls | exact Tw.ls2 | exact Tw.lc2 | exact Tw.ld | exact Tw.l0 | exact Tw.l1) rfl ?_; simp only [Act.put, List.setIfInBounds_toArray, List.set_cons_zero, List.set_cons_succ]))
            refine Sch.tn_n ?_
            go_wp2_with fail
            go_ret
            exact ⟨by rw [HN.out]; rfl, HB.out.trans (HBd.out.mono HB.out.size)⟩
          · have HHr := Lib.hid hhr
            clear hhr
            repeat (first
              | (refine Sch.tn_q rfl rfl rfl (fun K hK => ?_); go_big_quiet_op; (first | refine hK _ ?_ | refine ⟨_, fun _ _ => rfl, hK _ ?_⟩); clear hK K)
              | (refine Sch.tn_chk _ _ _ rfl rfl rfl rfl rfl ?_; simp only [Act.put, List.setIfInBounds_toArray, List.set_cons_zero, List.set_cons_succ])
              | (refine Sch.tn_load _ _ _ _ _ rfl rfl rfl rfl (by first | exact Tw.lv | exact Tw.lv2 | exact Tw.ls | exact Tw.ls2 | exact Tw.lc2 | exact Tw.ld | exact Tw.l0 | exact Tw.l1) rfl ?_; simp only [Act.put, List.setIfInBounds_toArray, List.set_cons_zero, List.set_cons_succ]))
            refine Sch.tn_n ?_
            go_wp2_with fail
            go_roundw
            case rel => exact ⟨k + 1, by omega, by go_num, HBd, fun j hj hjk => by
              by_cases e : j = k
              · subst e; rw [← HQ.out]; exact HHr.out
              · exact HV2.out j hj (by omega)⟩
            case measure => simp [intOf]; omega
        · obtain rfl : k = A.2.length := by omega
          have HN : Hid (R = true) := HYes.out HV1.out (fun j hj => HV2.out j hj hj)
          have hend : ¬ (A.2.length : Int) < (A.2.length : Int) := by omega
          obtain ⟨t0, t1⟩ := HT.out.keep hh.out
          have HBd := hh
          go_wp2_with fail
          go_ret
          exact ⟨by rw [HN.out]; rfl, HB.out.trans (HBd.out.mono HB.out.size)⟩
theorem compR_kx (A : Ct) (x y : Value) (w : World) (h : Kx w x y A) (hl : KL 1000000 A) :
    Calls Tryz.prog 28 #[cv x y] w fun e w' => e = .returned (.bool (F.isCompR A)) ∧ Below w.heap.size w w' := compR_ref A.1 A.2 x y w h hl
set_option maxRecDepth 100000 in
set_option maxHeartbeats 8000000 in
theorem validR_ref (d : Gt) (x y u v : Value) (w : World) (h : Gx w x y u v d) (hl : GL 1000000 d) :
    Calls Tryz.prog 9 #[gv x y u v] w fun e w' => e = .returned (.bool (validG d)) ∧ Below w.heap.size w w' := by
  have HE : Hid (validG d = (F.isCompR d.1 && F.isCompR d.2 && F.withinC d.2 d.1)) := rfl
  have HC1 := Lib.hid (fun w (h : Gx w x y u v d) => compR_kx d.1 x y w h.1 hl.1)
  have HC2 := Lib.hid (fun w (h : Gx w x y u v d) => compR_kx d.2 u v w h.2 hl.2)
  have HW := Lib.hid (fun (h1 : F.isCompR d.1 = true) (h2 : F.isCompR d.2 = true) w (h : Gx w x y u v d) => withinR_ref d.2 d.1 h2 h1 u v x y w h.2 h.1 hl.2 hl.1)
  have HG0 := Lib.hid h
  obtain ⟨⟨⟨a1, n1, rfl, -⟩, a2, n2, rfl, -⟩, ⟨a3, n3, rfl, -⟩, a4, n4, rfl, -⟩ := h
  have HB := Lib.hid (bel_box w (gbox (.slice a1 d.1.1.length n1) (.slice a2 d.1.2.length n2) (.slice a3 d.2.1.length n3) (.slice a4 d.2.2.length n4)))
  have HT := Lib.hid (four_new w (.slice a1 d.1.1.length n1) (.slice a2 d.1.2.length n2) (.slice a3 d.2.1.length n3) (.slice a4 d.2.2.length n4))
  have HG := Lib.hid (HG0.out.keep HB.out)
  clear hl HG0
  generalize validG d = R at *
  generalize F.withinC d.2 d.1 = wc at *
  generalize F.isCompR d.1 = c1 at *
  generalize F.isCompR d.2 = c2 at *
  go_enter Tryz.func9, Tryz.ntmps9
  go_upto_region 1 with fail
  generalize w.alloc (gbox (.slice a1 d.1.1.length n1) (.slice a2 d.1.2.length n2) (.slice a3 d.2.1.length n3) (.slice a4 d.2.2.length n4)) = w1 at *
  have k0 := HT.out.1.1
  have k1 := HT.out.1.2
  have k2 := HT.out.2.1
  have k3 := HT.out.2.2
  go_wp2_with fail
  refine (HC1.out _ HG.out).mono ?_
  rintro e w2 ⟨rfl, hb⟩
  replace HG := Lib.hid (HG.out.keep hb)
  replace HT := Lib.hid (HT.out.keep hb)
  replace HB := bel_tr HB hb
  clear hb HC1 k0 k1 k2 k3
  have k0 := HT.out.1.1
  have k1 := HT.out.1.2
  have k2 := HT.out.2.1
  have k3 := HT.out.2.2
  rcases c1 with _ | _
  · have hE := HE.out
    simp only [Bool.false_and] at hE
    subst hE
    clear HE
    go_wp2_with fail
    go_ret
    exact ⟨rfl, HB.out⟩
  go_wp2_with fail
  refine (HC2.out _ HG.out).mono ?_
  rintro e w3 ⟨rfl, hb⟩
  replace HG := Lib.hid (HG.out.keep hb)
  replace HT := Lib.hid (HT.out.keep hb)
  replace HB := bel_tr HB hb
  clear hb HC2 k0 k1 k2 k3
  have k0 := HT.out.1.1
  have k1 := HT.out.1.2
  have k2 := HT.out.2.1
  have k3 := HT.out.2.2
  rcases c2 with _ | _
  · have hE := HE.out
    simp only [Bool.and_false, Bool.false_and] at hE
    subst hE
    clear HE
    go_wp2_with fail
    go_ret
    exact ⟨rfl, HB.out⟩
  go_wp2_with fail
  refine (HW.out (by first | rfl | trivial) (by first | rfl | trivial) _ HG.out).mono ?_
  rintro e w4 ⟨rfl, hb⟩
  replace HG := Lib.hid (HG.out.keep hb)
  replace HT := Lib.hid (HT.out.keep hb)
  replace HB := bel_tr HB hb
  clear hb HW k0 k1 k2 k3
  have hE := HE.out
  simp only [Bool.true_and] at hE
  subst hE
  clear HE
  go_wp2_with fail
  go_ret
  exact ⟨by simp, HB.out⟩
set_option maxRecDepth 100000 in
set_option maxHeartbeats 8000000 in
theorem gwithinR_ref (d e : Gt) (x y u v s t o q : Value) (w : World) (hd : validG d = true) (he : validG e = true) (h : Gx w x y u v d) (h2 : Gx w s t o q e) (hl : GL 1000000 d) (hm : GL 1000000 e) :
    Calls Tryz.prog 15 #[gv x y u v, gv s t o q] w fun e' w' => e' = .returned (.bool (withinG d e)) ∧ Below w.heap.size w w' := by
  have HE : Hid (withinG d e = (F.withinC d.1 e.1 && F.withinC d.2 e.2)) := rfl
  obtain ⟨p1, p2, -⟩ := valid_parts hd
  obtain ⟨q1, q2, -⟩ := valid_parts he
  have HW1 := Lib.hid (fun w (h : Gx w x y u v d) (h2 : Gx w s t o q e) => withinR_ref d.1 e.1 p1 q1 x y s t w h.1 h2.1 hl.1 hm.1)
  have HW2 := Lib.hid (fun w (h : Gx w x y u v d) (h2 : Gx w s t o q e) => withinR_ref d.2 e.2 p2 q2 u v o q w h.2 h2.2 hl.2 hm.2)
  have HG0 := Lib.hid h
  have HH0 := Lib.hid h2
  obtain ⟨⟨⟨a1, n1, rfl, -⟩, a2, n2, rfl, -⟩, ⟨a3, n3, rfl, -⟩, a4, n4, rfl, -⟩ := h
  obtain ⟨⟨⟨a5, n5, rfl, -⟩, a6, n6, rfl, -⟩, ⟨a7, n7, rfl, -⟩, a8, n8, rfl, -⟩ := h2
  have hb0 := bel_box w (gbox (.slice a1 d.1.1.length n1) (.slice a2 d.1.2.length n2) (.slice a3 d.2.1.length n3) (.slice a4 d.2.2.length n4))
  have hsz : (w.alloc (gbox (.slice a1 d.1.1.length n1) (.slice a2 d.1.2.length n2) (.slice a3 d.2.1.length n3) (.slice a4 d.2.2.length n4))).heap.size = w.heap.size + 1 := by simp
  have HT0 := Lib.hid (four_new w (.slice a1 d.1.1.length n1) (.slice a2 d.1.2.length n2) (.slice a3 d.2.1.length n3) (.slice a4 d.2.2.length n4))
  have hb1 := bel_box (w.alloc (gbox (.slice a1 d.1.1.length n1) (.slice a2 d.1.2.length n2) (.slice a3 d.2.1.length n3) (.slice a4 d.2.2.length n4))) (gbox (.slice a5 e.1.1.length n5) (.slice a6 e.1.2.length n6) (.slice a7 e.2.1.length n7) (.slice a8 e.2.2.length n8))
  have HS := Lib.hid (four_new (w.alloc (gbox (.slice a1 d.1.1.length n1) (.slice a2 d.1.2.length n2) (.slice a3 d.2.1.length n3) (.slice a4 d.2.2.length n4))) (.slice a5 e.1.1.length n5) (.slice a6 e.1.2.length n6) (.slice a7 e.2.1.length n7) (.slice a8 e.2.2.length n8))
  rw [hsz] at HS
  have HT := Lib.hid (HT0.out.keep hb1)
  have HB := bel_tr (Lib.hid hb0) hb1
  have HG := Lib.hid (HG0.out.keep HB.out)
  have HH := Lib.hid (HH0.out.keep HB.out)
  clear hl hm HG0 HH0 hb0 hb1 HT0 hsz p1 p2 q1 q2 hd he
  generalize withinG d e = R at *
  generalize F.withinC d.1 e.1 = r1 at *
  generalize F.withinC d.2 e.2 = r2 at *
  go_enter Tryz.func15, Tryz.ntmps15
  go_upto_region 1 with fail
  generalize (w.alloc (gbox (.slice a1 d.1.1.length n1) (.slice a2 d.1.2.length n2) (.slice a3 d.2.1.length n3) (.slice a4 d.2.2.length n4))).alloc (gbox (.slice a5 e.1.1.length n5) (.slice a6 e.1.2.length n6) (.slice a7 e.2.1.length n7) (.slice a8 e.2.2.length n8)) = w1 at *
  have k0 := HT.out.1.1
  have k1 := HT.out.1.2
  have k2 := HT.out.2.1
  have k3 := HT.out.2.2
  have l0 := HS.out.1.1
  have l1 := HS.out.1.2
  have l2 := HS.out.2.1
  have l3 := HS.out.2.2
  go_wp2_with fail
  refine (HW1.out _ HG.out HH.out).mono ?_
  rintro e w2 ⟨rfl, hb⟩
  replace HG := Lib.hid (HG.out.keep hb)
  replace HH := Lib.hid (HH.out.keep hb)
  replace HT := Lib.hid (HT.out.keep hb)
  replace HS := Lib.hid (HS.out.keep hb)
  replace HB := bel_tr HB hb
  clear hb HW1 k0 k1 k2 k3 l0 l1 l2 l3
  have k0 := HT.out.1.1
  have k1 := HT.out.1.2
  have k2 := HT.out.2.1
  have k3 := HT.out.2.2
  have l0 := HS.out.1.1
  have l1 := HS.out.1.2
  have l2 := HS.out.2.1
  have l3 := HS.out.2.2
  rcases r1 with _ | _
  · have hE := HE.out
    simp only [Bool.false_and] at hE
    subst hE
    clear HE
    go_wp2_with fail
    go_ret
    exact ⟨rfl, HB.out⟩
  go_wp2_with fail
  refine (HW2.out _ HG.out HH.out).mono ?_
  rintro e w3 ⟨rfl, hb⟩
  replace HG := Lib.hid (HG.out.keep hb)
  replace HH := Lib.hid (HH.out.keep hb)
  replace HT := Lib.hid (HT.out.keep hb)
  replace HS := Lib.hid (HS.out.keep hb)
  replace HB := bel_tr HB hb
  clear hb HW2 k0 k1 k2 k3 l0 l1 l2 l3
  have hE := HE.out
  simp only [Bool.true_and] at hE
  subst hE
  clear HE
  go_wp2_with fail
  go_ret
  exact ⟨by simp, HB.out⟩
def lackR (d : Gt) (n : Nt) : Bool := !hasR d.1 n.1 || (deadN n && !hasR d.2 n.1)
def diffR (l : List Nt) (d : Gt) : List Nt := l.filter (lackR d)
theorem diffR_eq {l : List Nt} (hl : validS l = true) (d : Gt) : diffR l d = diffG l d := diff_ref hl d
theorem diffR_take {l : List Nt} {d : Gt} {k : Nat} (hk : k < l.length) : diffR (l.take (k + 1)) d = if lackR d l[k] = true then diffR (l.take k) d ++ [l[k]] else diffR (l.take k) d := by
  have e : l.take (k + 1) = l.take k ++ [l[k]] := by rw [List.take_add_one, List.getElem?_eq_getElem hk]; rfl
  unfold diffR
  rw [e, List.filter_append, List.filter_cons]
  split
  · simp
  · simp
/-- A digest's box, and a node of a row. -/
def Dw (g : Nat) (x y u v : Value) (b o : Nat) (n : Nt) (w : World) : Prop := Gb w g x y u v ∧ Na w b o n
section
variable {g b o : Nat} {x y u v : Value} {n : Nt}
theorem Dw.keep {w w' : World} (h : Dw g x y u v b o n w) (hb : Below w.heap.size w w') : Dw g x y u v b o n w' := ⟨h.1.keep hb, h.2.keep hb⟩
theorem Dw.la : ∀ w, Dw g x y u v b o n w → (Instr.loadAt 25 (.pointer (some ⟨g, 0, none⟩))).run Tryz.prog w = .ok (cv x y) w := fun w h => F.load_ctx h.1.1
theorem Dw.lg : ∀ w, Dw g x y u v b o n w → (Instr.loadAt 25 (.pointer (some ⟨g, 2, none⟩))).run Tryz.prog w = .ok (cv u v) w := fun w h => by
  have h0 := h.1.2.1
  have h1 := h.1.2.2
  go_simp
theorem Dw.ld : ∀ w, Dw g x y u v b o n w → (Instr.loadAt 48 (.pointer (some ⟨b, o, none⟩))).run Tryz.prog w = .ok (dv n.1) w := fun w h => load_dot h.2.1 h.2.2.1
theorem Dw.lr : ∀ w, Dw g x y u v b o n w → (Instr.loadAt 21 (.pointer (some ⟨b, o + 5, none⟩))).run Tryz.prog w = .ok (.int .i32 n.2.2.2) w := fun w h => by
  have h0 := h.2.2.2.2.2.2
  go_simp
end
set_option maxRecDepth 100000 in
set_option maxHeartbeats 8000000 in
theorem diffR_ref (l : List Nt) (a : Option Addr) (c : Nat) (d : Gt) (x y u v : Value) (w : World) (hx : RowN w a l) (hlx : l.length ≤ 300000) (h : Gx w x y u v d) (hl : GL 1000000 d) :
    Calls Tryz.prog 19 #[.slice a l.length c, gv x y u v] w fun e w' => ∃ z, e = .returned z ∧ ON w' w.heap.size 51 z (diffR l d) ∧ Below w.heap.size w w' := by
  obtain ⟨pf, hpf⟩ : ∃ pf : Nat → List Nt, pf = fun k => diffR (l.take k) d := ⟨_, rfl⟩
  have HP0 : Hid (pf 0 = []) := by show _ = _; rw [hpf]; rfl
  have HPn : Hid (pf l.length = diffR l d) := by show _ = _; rw [hpf]; simp only [List.take_length]
  have HPs : Hid (∀ k (hk : k < l.length), pf (k + 1) = if lackR d l[k] = true then pf k ++ [l[k]] else pf k) := fun k hk => by rw [hpf]; exact diffR_take hk
  have HPl : Hid (∀ k, (pf k).length ≤ 300000) := fun k => by
    rw [hpf]
    have h1 := List.length_filter_le (lackR d) (l.take k)
    have h3 : (l.take k).length ≤ l.length := by rw [List.length_take]; omega
    show (diffR (l.take k) d).length ≤ _
    unfold diffR
    omega
  clear hpf
  have hli : (l.length : Int) ≤ 300000 := by omega
  have HA1 := Lib.hid (fun p w (h : Gx w x y u v d) => hasR_ref d.1 p x y w h.1 hl.1)
  have HA2 := Lib.hid (fun p w (h : Gx w x y u v d) => hasR_ref d.2 p u v w h.2 hl.2)
  have HG0 := Lib.hid h
  obtain ⟨⟨⟨a1, n1, rfl, -⟩, a2, n2, rfl, -⟩, ⟨a3, n3, rfl, -⟩, a4, n4, rfl, -⟩ := h
  have HB := Lib.hid (bel_box w (gbox (.slice a1 d.1.1.length n1) (.slice a2 d.1.2.length n2) (.slice a3 d.2.1.length n3) (.slice a4 d.2.2.length n4)))
  have HT := Lib.hid (four_new w (.slice a1 d.1.1.length n1) (.slice a2 d.1.2.length n2) (.slice a3 d.2.1.length n3) (.slice a4 d.2.2.length n4))
  have HG := Lib.hid (HG0.out.keep HB.out)
  have HX := Lib.hid (hx.keep HB.out)
  clear hl hx hlx HG0
  generalize diffR l d = D1 at *
  go_enter Tryz.func19, Tryz.ntmps19
  go_upto_region 1 with fail
  generalize w.alloc (gbox (.slice a1 d.1.1.length n1) (.slice a2 d.1.2.length n2) (.slice a3 d.2.1.length n3) (.slice a4 d.2.2.length n4)) = w1 at *
  go_wp2_with fail
  go_loopw [5, 6] (fun v i wr => ∃ k : Nat, k ≤ l.length ∧ i = .int .i64 (k : Int) ∧ Hid (ON wr w1.heap.size 51 v (pf k)) ∧ Hid (Below w1.heap.size w1 wr)) (fun _ i _ => l.length - (intOf i).toNat)
  case atStart => exact ⟨0, Nat.zero_le _, rfl, (by show ON _ _ _ _ (pf 0); rw [HP0.out]; exact ON.nil _ _ _), Below.refl _ _⟩
  case round =>
    obtain ⟨k, hk, rfl, HO, hh⟩ := hrel
    by_cases hlt : k < l.length
    · have hi0 : (k : Int) < (l.length : Int) := by omega
      have hg0 : decide ((k : Int) < (l.length : Int)) = true := by simpa using hi0
      obtain ⟨b1, o1, rfl, hna⟩ := na_of (HX.out.keep hh.out) k hlt
      have hix := ixS b1 o1 l.length c k (k : Int) rfl hlt
      have HSt := Lib.hid (HPs.out k hlt)
      have HPk := Lib.hid (HPl.out k)
      obtain ⟨q, hq⟩ : ∃ q, q = l[k] := ⟨_, rfl⟩
      rw [← hq] at hna HSt
      clear hq
      have HD : Hid (deadN q = (q.2.2.2 == 0)) := rfl
      have HE1 : Hid (lackR d q = (!hasR d.1 q.1 || (deadN q && !hasR d.2 q.1))) := rfl
      have HH1 := Lib.hid (fun w h => HA1.out q.1 w h)
      have HH2 := Lib.hid (fun w h => HA2.out q.1 w h)
      have HK0 : Hid (Dw w.heap.size (.slice a1 d.1.1.length n1) (.slice a2 d.1.2.length n2) (.slice a3 d.2.1.length n3) (.slice a4 d.2.2.length n4) b1 (o1 + k * 6) q wr.drew) := Lib.hid (Dw.keep ⟨HT.out.keep hh.out, hna⟩ (Below.refl _ _).drew)
      have HBd : Hid (Below w1.heap.size w1 wr.drew) := Lib.hid hh.out.drew
      have HBd2 : Hid (Below wr.heap.size wr wr.drew) := Lib.hid (Below.refl _ _).drew
      clear hna
      generalize hasR d.1 q.1 = r1 at *
      generalize hasR d.2 q.1 = r2 at *
      generalize lackR d q = lk at *
      generalize deadN q = dd at *
      go_wp2_with fail
      refine Sch.wp_region_tn (Dw w.heap.size (.slice a1 d.1.1.length n1) (.slice a2 d.1.2.length n2) (.slice a3 d.2.1.length n3) (.slice a4 d.2.2.length n4) b1 (o1 + k * 6) q) (.val 0 (.val 1 (.val 2 (.val 3 (.val 4 (.val 5 (.val 6 (.one 7 (.val 8 (.val 9 (.val 10 (.val 11 (.val 12 (.val 13 (.val 14 (.val 15 (.val 16 (.val 17 (.val 18 (.val 19 (.val 20 (.val 21 (.val 22 (.val 23 (.one 24 (.val 25 (.val 26 (.val 27 .done)))))))))))))))))))))))))))) (by kernel_rfl) (by kernel_rfl) HK0.out ?_
      repeat (first
        | (refine Sch.tn_q rfl rfl rfl (fun K hK => ?_); go_big_quiet_op; (first | refine hK _ ?_ | refine ⟨_, fun _ _ => rfl, hK _ ?_⟩); clear hK K)
        | (refine Sch.tn_chk _ _ _ rfl rfl rfl rfl rfl ?_; simp only [Act.put, List.setIfInBounds_toArray, List.set_cons_zero, List.set_cons_succ])
        | (refine Sch.tn_load _ _ _ _ _ rfl rfl rfl rfl (by first | exact Dw.la | exact Dw.lg | exact Dw.ld | exact Dw.lr) rfl ?_; simp only [Act.put, List.setIfInBounds_toArray, List.set_cons_zero, List.set_cons_succ]))
      generalize wr.drew = w2 at *
      refine Sch.tn_e rfl rfl (fun K hK => ?_)
      go_wp2_with fail
      refine (HH1.out _ (HG.out.keep HBd.out)).mono ?_
      rintro e w3 ⟨rfl, hb⟩
      replace HK0 := Lib.hid (HK0.out.keep hb)
      replace HBd2 := bel_tr HBd2 hb
      replace HBd := bel_tr HBd hb
      clear hb HH1
      refine hK _ _ HK0.out ?_
      clear hK K
      rcases r1 with _ | _
      · have hE := HE1.out
        simp only [Bool.not_false, Bool.true_or] at hE
        subst hE
        have HSt2 : Hid (pf (k + 1) = pf k ++ [q]) := by show _ = _; rw [HSt.out, if_pos (by first | rfl | trivial)]
        repeat (first
          | (refine Sch.tn_q rfl rfl rfl (fun K hK => ?_); go_big_quiet_op; (first | refine hK _ ?_ | refine ⟨_, fun _ _ => rfl, hK _ ?_⟩); clear hK K)
          | (refine Sch.tn_chk _ _ _ rfl rfl rfl rfl rfl ?_; simp only [Act.put, List.setIfInBounds_toArray, List.set_cons_zero, List.set_cons_succ])
          | (refine Sch.tn_load _ _ _ _ _ rfl rfl rfl rfl (by first | exact Dw.la | exact Dw.lg | exact Dw.ld | exact Dw.lr) rfl ?_; simp only [Act.put, List.setIfInBounds_toArray, List.set_cons_zero, List.set_cons_succ])
          | (refine Sch.tn_s _ rfl rfl rfl ?_; simp only [Act.put, List.setIfInBounds_toArray, List.set_cons_zero, List.set_cons_succ])
          | (refine Sch.tn_se _ rfl rfl rfl ?_; simp only [Act.put, List.setIfInBounds_toArray, List.set_cons_zero, List.set_cons_succ]))
        refine Sch.tn_n ?_
        replace HO := Lib.hid (HO.out.below HBd2.out)
        have HNa := Lib.hid HK0.out.2
        obtain ⟨n0', n1', n2', n3', n4', n5'⟩ := HNa.out
        generalize w3 = wx at *
        obtain ⟨⟨q1, q2⟩, ⟨q3, q4⟩, q5, q6⟩ := q
        have hb2 := bel_box wx (.cells (nc ((q1, q2), (q3, q4), q5, q6)) 51)
        have HO2 := Lib.hid (HO.out.below hb2)
        have HB2 := bel_tr HBd hb2
        have HLt : Hid (RowN (wx.alloc (.cells (nc ((q1, q2), (q3, q4), q5, q6)) 51)) (some ⟨wx.heap.size, 0, none⟩) [((q1, q2), (q3, q4), q5, q6)]) := RowN.lit wx [((q1, q2), (q3, q4), q5, q6)] _ _ _ rfl
        clear hb2
        go_wp2_with (at_builtin; refine wpList_appN rfl _ _ _ rfl Tryz.underlying36 infoN _ _ rfl HO2.out (some ⟨wx.heap.size, 0, none⟩) [((q1, q2), (q3, q4), q5, q6)] 1 1 rfl rfl HLt.out (fun h => by cases h) (by have := HPk.out; simp only [List.length_cons, List.length_nil]; omega) HB2.out.size ?_)
        intro v7 w7 ho hg _
        have HO7 : Hid (ON w7 w1.heap.size 51 v7 (pf (k + 1))) := by rw [HSt2.out]; exact ho
        have HB7 := Lib.hid (HB2.out.grown hg HB2.out.size (fun x hx => (HO2.out.lt x hx).1))
        clear ho hg n0' n1' n2' n3' n4' n5'
        go_wp2_with fail
        go_roundw
        case rel => exact ⟨k + 1, by omega, by go_num, HO7, HB7⟩
        case measure => simp [intOf]; omega
      · by_cases h6 : q.2.2.2 = 0
        · have h7 : dd = true := by rw [HD.out, h6]; rfl
          have h8 : (q.2.2.2 == 0) = true := by rw [h6]; rfl
          subst h7
          clear h6
          repeat (first
            | (refine Sch.tn_q rfl rfl rfl (fun K hK => ?_); go_big_quiet_op; (first | refine hK _ ?_ | refine ⟨_, fun _ _ => rfl, hK _ ?_⟩); clear hK K)
            | (refine Sch.tn_chk _ _ _ rfl rfl rfl rfl rfl ?_; simp only [Act.put, List.setIfInBounds_toArray, List.set_cons_zero, List.set_cons_succ])
            | (refine Sch.tn_load _ _ _ _ _ rfl rfl rfl rfl (by first | exact Dw.la | exact Dw.lg | exact Dw.ld | exact Dw.lr) rfl ?_; simp only [Act.put, List.setIfInBounds_toArray, List.set_cons_zero, List.set_cons_succ])
            | (refine Sch.tn_s _ rfl rfl rfl ?_; simp only [Act.put, List.setIfInBounds_toArray, List.set_cons_zero, List.set_cons_succ])
            | (refine Sch.tn_se _ rfl rfl rfl ?_; simp only [Act.put, List.setIfInBounds_toArray, List.set_cons_zero, List.set_cons_succ]))
          refine Sch.tn_e rfl rfl (fun K hK => ?_)
          go_wp2_with fail
          refine (HH2.out _ (HG.out.keep HBd.out)).mono ?_
          rintro e w4 ⟨rfl, hb⟩
          replace HK0 := Lib.hid (HK0.out.keep hb)
          replace HBd2 := bel_tr HBd2 hb
          replace HBd := bel_tr HBd hb
          clear hb HH2
          refine hK _ _ HK0.out ?_
          clear hK K
          rcases r2 with _ | _
          · have hE := HE1.out
            simp only [Bool.not_false, Bool.not_true, Bool.true_and, Bool.false_or] at hE
            subst hE
            have HSt2 : Hid (pf (k + 1) = pf k ++ [q]) := by show _ = _; rw [HSt.out, if_pos (by first | rfl | trivial)]
            repeat (first
              | (refine Sch.tn_q rfl rfl rfl (fun K hK => ?_); go_big_quiet_op; (first | refine hK _ ?_ | refine ⟨_, fun _ _ => rfl, hK _ ?_⟩); clear hK K)
              | (refine Sch.tn_chk _ _ _ rfl rfl rfl rfl rfl ?_; simp only [Act.put, List.setIfInBounds_toArray, List.set_cons_zero, List.set_cons_succ])
              | (refine Sch.tn_load _ _ _ _ _ rfl rfl rfl rfl (by first | exact Dw.la | exact Dw.lg | exact Dw.ld | exact Dw.lr) rfl ?_; simp only [Act.put, List.setIfInBounds_toArray, List.set_cons_zero, List.set_cons_succ])
              | (refine Sch.tn_s _ rfl rfl rfl ?_; simp only [Act.put, List.setIfInBounds_toArray, List.set_cons_zero, List.set_cons_succ])
              | (refine Sch.tn_se _ rfl rfl rfl ?_; simp only [Act.put, List.setIfInBounds_toArray, List.set_cons_zero, List.set_cons_succ]))
            refine Sch.tn_n ?_
            replace HO := Lib.hid (HO.out.below HBd2.out)
            have HNa := Lib.hid HK0.out.2
            obtain ⟨n0', n1', n2', n3', n4', n5'⟩ := HNa.out
            generalize w4 = wx at *
            obtain ⟨⟨q1, q2⟩, ⟨q3, q4⟩, q5, q6⟩ := q
            have hb2 := bel_box wx (.cells (nc ((q1, q2), (q3, q4), q5, q6)) 51)
            have HO2 := Lib.hid (HO.out.below hb2)
            have HB2 := bel_tr HBd hb2
            have HLt : Hid (RowN (wx.alloc (.cells (nc ((q1, q2), (q3, q4), q5, q6)) 51)) (some ⟨wx.heap.size, 0, none⟩) [((q1, q2), (q3, q4), q5, q6)]) := RowN.lit wx [((q1, q2), (q3, q4), q5, q6)] _ _ _ rfl
            clear hb2
            go_wp2_with (at_builtin; refine wpList_appN rfl _ _ _ rfl Tryz.underlying36 infoN _ _ rfl HO2.out (some ⟨wx.heap.size, 0, none⟩) [((q1, q2), (q3, q4), q5, q6)] 1 1 rfl rfl HLt.out (fun h => by cases h) (by have := HPk.out; simp only [List.length_cons, List.length_nil]; omega) HB2.out.size ?_)
            intro v7 w7 ho hg _
            have HO7 : Hid (ON w7 w1.heap.size 51 v7 (pf (k + 1))) := by rw [HSt2.out]; exact ho
            have HB7 := Lib.hid (HB2.out.grown hg HB2.out.size (fun x hx => (HO2.out.lt x hx).1))
            clear ho hg n0' n1' n2' n3' n4' n5'
            go_wp2_with fail
            go_roundw
            case rel => exact ⟨k + 1, by omega, by go_num, HO7, HB7⟩
            case measure => simp [intOf]; omega
          · have hE := HE1.out
            simp only [Bool.not_true, Bool.and_false, Bool.false_or] at hE
            subst hE
            have HSt2 : Hid (pf (k + 1) = pf k) := by show _ = _; rw [HSt.out, if_neg (by simp)]
            repeat (first
              | (refine Sch.tn_q rfl rfl rfl (fun K hK => ?_); go_big_quiet_op; (first | refine hK _ ?_ | refine ⟨_, fun _ _ => rfl, hK _ ?_⟩); clear hK K)
              | (refine Sch.tn_chk _ _ _ rfl rfl rfl rfl rfl ?_; simp only [Act.put, List.setIfInBounds_toArray, List.set_cons_zero, List.set_cons_succ])
              | (refine Sch.tn_load _ _ _ _ _ rfl rfl rfl rfl (by first | exact Dw.la | exact Dw.lg | exact Dw.ld | exact Dw.lr) rfl ?_; simp only [Act.put, List.setIfInBounds_toArray, List.set_cons_zero, List.set_cons_succ])
              | (refine Sch.tn_s _ rfl rfl rfl ?_; simp only [Act.put, List.setIfInBounds_toArray, List.set_cons_zero, List.set_cons_succ])
              | (refine Sch.tn_se _ rfl rfl rfl ?_; simp only [Act.put, List.setIfInBounds_toArray, List.set_cons_zero, List.set_cons_succ]))
            refine Sch.tn_n ?_
            replace HO := Lib.hid (HO.out.below HBd2.out)
            go_wp2_with fail
            go_roundw
            case rel => exact ⟨k + 1, by omega, by go_num, (by show ON _ _ _ _ (pf (k + 1)); rw [HSt2.out]; exact HO.out), HBd⟩
            case measure => simp [intOf]; omega
        · have h7 : dd = false := by rw [HD.out]; exact beq_false_of_ne h6
          have h8 : (q.2.2.2 == 0) = false := beq_false_of_ne h6
          subst h7
          have hE := HE1.out
          simp only [Bool.not_true, Bool.false_and, Bool.false_or] at hE
          subst hE
          clear h6
          have HSt2 : Hid (pf (k + 1) = pf k) := by show _ = _; rw [HSt.out, if_neg (by simp)]
          repeat (first
            | (refine Sch.tn_q rfl rfl rfl (fun K hK => ?_); go_big_quiet_op; (first | refine hK _ ?_ | refine ⟨_, fun _ _ => rfl, hK _ ?_⟩); clear hK K)
            | (refine Sch.tn_chk _ _ _ rfl rfl rfl rfl rfl ?_; simp only [Act.put, List.setIfInBounds_toArray, List.set_cons_zero, List.set_cons_succ])
            | (refine Sch.tn_load _ _ _ _ _ rfl rfl rfl rfl (by first | exact Dw.la | exact Dw.lg | exact Dw.ld | exact Dw.lr) rfl ?_; simp only [Act.put, List.setIfInBounds_toArray, List.set_cons_zero, List.set_cons_succ])
            | (refine Sch.tn_s _ rfl rfl rfl ?_; simp only [Act.put, List.setIfInBounds_toArray, List.set_cons_zero, List.set_cons_succ])
            | (refine Sch.tn_se _ rfl rfl rfl ?_; simp only [Act.put, List.setIfInBounds_toArray, List.set_cons_zero, List.set_cons_succ]))
          refine Sch.tn_n ?_
          replace HO := Lib.hid (HO.out.below HBd2.out)
          go_wp2_with fail
          go_roundw
          case rel => exact ⟨k + 1, by omega, by go_num, (by show ON _ _ _ _ (pf (k + 1)); rw [HSt2.out]; exact HO.out), HBd⟩
          case measure => simp [intOf]; omega
    · obtain rfl : k = l.length := by omega
      have hend : ¬ (l.length : Int) < (l.length : Int) := by omega
      rw [HPn.out] at HO
      have HO7 := Lib.hid (HO.out.mono (base' := w.heap.size) fun x hx => Nat.le_trans HB.out.size (HO.out.lt x hx).1)
      have HB7 := bel_tr HB hh.out
      go_wp2_with fail
      go_ret
      exact ⟨_, rfl, HO7.out, HB7.out⟩
end Go.Proofs.YtgopkffgljiblaaGreat.Dg
