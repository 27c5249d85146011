/-
  OmapIterates.
-/
import Derived.Test.YtmmcnpcijeahcaaJInv
namespace Go.Proofs.Ytmmcnpcijeahcaa.J
set_option linter.unusedVariables false
open Go.RowKit V Go.Shelf
attribute [local irreducible] Sch.heldN Sch.stepV Sch.stepE
attribute [local go_sem] Oper.semAt_some

set_option maxRecDepth 100000 in
set_option maxHeartbeats 8000000 in
theorem iterates_law (d : Bool) (l : List Ac) (a : Option Addr) (c : Nat) (k t : Int) (w : World) (hx : RowA w a l) (hl : l.length ≤ 9223372036854775807) (ht0 : 0 ≤ t) (ht : t ≤ 255) :
    Calls Try.prog 4 #[.bool d, .slice a l.length c, .int .i64 k, .int .u8 t] w fun e w' => e = .returned (.bool true) ∧ Below w.heap.size w w' := by
  have HX := Lib.hid hx
  have hb1 := bel_box w (.cells #[.int .u8 t] 5)
  have hb2 := bel_box (w.alloc (.cells #[.int .u8 t] 5)) (.cells #[.bool false] 4)
  have HB := Lib.hid (bel_tr hb1 hb2)
  have h22 := bx_new (w.alloc (.cells #[.int .u8 t] 5)) (.bool false) 4
  rw [show (w.alloc (.cells #[.int .u8 t] 5)).heap.size = w.heap.size + 1 by simp] at h22
  have HV : Hid (B2 ((w.alloc (.cells #[.int .u8 t] 5)).alloc (.cells #[.bool false] 4)) w.heap.size t false) := ⟨(bx_new w (.int .u8 t) 5).keep hb2, h22⟩
  have HLi := Lib.hid (light_any l a c _ (HX.out.keepB HB.out (Nat.le_refl _)) hl)
  clear hx hl hb1 hb2 h22
  refine (callsIn_wide (n := 3)).1 ?_
  refine callsIn_of_wp_marks Try.func4 rfl trivial ?_ rfl
  simp only [Try.ntmps4, List.size_toArray, List.length_cons, List.length_nil, Nat.reduceAdd, Nat.reduceSub, Array.replicate_succ, Array.replicate_zero, List.push_toArray, List.append_toArray, List.nil_append, List.cons_append]
  refine wpIn_wide.2 ?_
  refine wp_hide fun Q' HQ' => ?_
  go_wp2_with fail
  refine HLi.out.mono ?_
  rintro e w0 ⟨bb, rfl, rfl, hbb⟩
  have HBB := Lib.hid hbb
  clear hbb HLi
  generalize (w.alloc (.cells #[.int .u8 t] 5)).alloc (.cells #[.bool false] 4) = w0 at *
  have v0 := HV.out.2.cell
  have v1 := HV.out.2.free
  have HKn := Lib.hid (known_any w0)
  obtain hcase | ⟨hbt, hk1, hk2⟩ : (bb = false ∨ 4611686018427387904 < k ∨ k < -4611686018427387904) ∨ (bb = true ∧ ¬ 4611686018427387904 < k ∧ ¬ k < -4611686018427387904) := by
    cases bb <;> simp <;> omega
  · rcases bb with _ | _
    · go_wp2_with fail
      refine HKn.out.mono ?_
      rintro e w9 ⟨rfl, hb⟩
      replace HV := Lib.hid (HV.out.keep hb)
      replace HB := Lib.hid (bel_tr HB.out hb)
      clear hb v0 v1
      have v0 := HV.out.2.cell
      have v1 := HV.out.2.free
      go_wp2_with fail
      (try simp only [Exit.inBlock, Exit.then])
      refine HQ'.out _ _ _ ?_
      refine retM (v := .bool true) (ret_bool rfl (HV.out.2.set (.bool true)) rfl) rfl ?_
      exact ⟨rfl, below_gb HB.out (gb_setCell _ _ _ _) HB.out.size (by omega)⟩
    · by_cases hk : 4611686018427387904 < k
      · go_wp2_with fail
        refine HKn.out.mono ?_
        rintro e w9 ⟨rfl, hb⟩
        replace HV := Lib.hid (HV.out.keep hb)
        replace HB := Lib.hid (bel_tr HB.out hb)
        clear hb v0 v1
        have v0 := HV.out.2.cell
        have v1 := HV.out.2.free
        go_wp2_with fail
        (try simp only [Exit.inBlock, Exit.then])
        refine HQ'.out _ _ _ ?_
        refine retM (v := .bool true) (ret_bool rfl (HV.out.2.set (.bool true)) rfl) rfl ?_
        exact ⟨rfl, below_gb HB.out (gb_setCell _ _ _ _) HB.out.size (by omega)⟩
      · have hk2 : k < -4611686018427387904 := by simp at hcase; omega
        go_wp2_with fail
        refine HKn.out.mono ?_
        rintro e w9 ⟨rfl, hb⟩
        replace HV := Lib.hid (HV.out.keep hb)
        replace HB := Lib.hid (bel_tr HB.out hb)
        clear hb v0 v1
        have v0 := HV.out.2.cell
        have v1 := HV.out.2.free
        go_wp2_with fail
        (try simp only [Exit.inBlock, Exit.then])
        refine HQ'.out _ _ _ ?_
        refine retM (v := .bool true) (ret_bool rfl (HV.out.2.set (.bool true)) rfl) rfl ?_
        exact ⟨rfl, below_gb HB.out (gb_setCell _ _ _ _) HB.out.size (by omega)⟩
  · subst hbt
    have HLn := Lib.hid (HBB.out rfl)
    have hl60 : (l.length : Int) ≤ 60 := by have := HLn.out.1; omega
    clear HBB HKn v0 v1
    have HM1 := Lib.hid (made_any d w0)
    go_wp2_with fail
    refine HM1.out.mono ?_
    rintro e w1 ⟨g, rfl, hg, hm, hb⟩
    have hmb := mb_new (w1.alloc (.cells #[.pointer (some ⟨g, 0, none⟩)] 25)) d (.slice none 0 0)
    rw [show (w1.alloc (.cells #[.pointer (some ⟨g, 0, none⟩)] 25)).heap.size = w1.heap.size + 1 by simp] at hmb
    have hb1 := bel_box w1 (.cells #[.pointer (some ⟨g, 0, none⟩)] 25)
    have hb2 := bel_box (w1.alloc (.cells #[.pointer (some ⟨g, 0, none⟩)] 25)) (.cells #[.bool d, .slice none 0 0] 29)
    have hb3 := bel_tr hb1 hb2
    have HP : Hid (Bx ((w1.alloc (.cells #[.pointer (some ⟨g, 0, none⟩)] 25)).alloc (.cells #[.bool d, .slice none 0 0] 29)) w1.heap.size (.pointer (some ⟨g, 0, none⟩)) 25) := (bx_new w1 _ _).keep hb2
    have HQ : Hid (Sq ((w1.alloc (.cells #[.pointer (some ⟨g, 0, none⟩)] 25)).alloc (.cells #[.bool d, .slice none 0 0] 29)) (w1.heap.size + 1) d [] none 0) := ⟨hmb, .inl rfl, (fun z h => by cases h), Nat.le_refl _, fun _ => rfl⟩
    have HG : Hid (w.heap.size ≤ g) := by have := HB.out.size; show _ ≤ _; omega
    have HRg : Hid (w.heap.size + 1 < w1.heap.size) := by have h1 := HV.out.2.lt; have h2 := hb.size; show _ < _; omega
    have HM := Lib.hid (hm.keep hb3)
    replace HV := Lib.hid ((HV.out.keep hb).keep hb3)
    replace HB := Lib.hid (bel_tr (bel_tr HB.out hb) hb3)
    clear hg hm hb hmb hb1 hb2 hb3 HM1
    go_wp2_with fail
    generalize (w1.alloc (.cells #[.pointer (some ⟨g, 0, none⟩)] 25)).alloc (.cells #[.bool d, .slice none 0 0] 29) = w2 at *
    generalize w1.heap.size = Bm at *
    go_loopw [39] (fun j wr => ∃ (q : Nat) (L : List Pr) (av : Option Addr) (cv : Nat), q ≤ l.length ∧ j = .int .i64 q ∧ Hid (Mp wr g d L) ∧ Hid (Sq wr (Bm + 1) d L av cv) ∧ Hid (Bx wr Bm (.pointer (some ⟨g, 0, none⟩)) 25) ∧ Hid (B2 wr w.heap.size t false) ∧ Hid (Below w.heap.size w wr) ∧ L.length ≤ q) (fun j _ => l.length - (intOf j).toNat)
    case atStart => exact ⟨0, [], none, 0, by omega, rfl, HM, HQ, HP, HV, HB, by simp⟩
    case round =>
      clear HM HQ HP HV HB
      obtain ⟨q, L, av, cv, hq, rfl, HM, HQ, HP, HV, HB, hLq⟩ := hrel
      by_cases hlt : q < l.length
      · obtain ⟨b, o, rfl, c0, c1, c2⟩ := (HX.out.keepB HB.out (Nat.le_refl _)).get q hlt
        obtain ⟨x, hx⟩ : ∃ x, x = l[q] := ⟨_, rfl⟩
        rw [← hx] at c0 c1 c2
        clear hx
        obtain ⟨x0, x1, x2⟩ := x
        simp only at c0 c1 c2
        have hqi : (q : Int) < (l.length : Int) := by omega
        have hq60 : (q : Int) ≤ 60 := by omega
        have hb := bel_box wr (.cells #[.int .i64 x0, .int .i64 x1, .string x2] 31)
        have HA : Hid (Ab (wr.alloc (.cells #[.int .i64 x0, .int .i64 x1, .string x2] 31)) wr.heap.size (x0, x1, x2)) := ⟨by go_simp, by go_simp, by go_simp⟩
        replace HM := Lib.hid (HM.out.keep hb)
        replace HQ := Lib.hid (HQ.out.keep hb)
        replace HP := Lib.hid (HP.out.keep hb)
        replace HV := Lib.hid (HV.out.keep hb)
        replace HB := Lib.hid (bel_tr HB.out hb)
        clear hb
        have HC := Lib.hid (set_yes g d L x1 x2 _ (by omega) HM.out)
        have p0 := HP.out.cell
        go_wp2_with fail
        refine HC.out.mono ?_
        rintro e w4 ⟨rfl, hm, hg⟩
        clear HC p0 c0 c1 c2
        generalize wr.alloc (.cells #[.int .i64 x0, .int .i64 x1, .string x2] 31) = wA at *
        generalize wr.heap.size = xb at *
        replace HQ := Lib.hid (HQ.out.gb HM.out hg)
        replace HA := Lib.hid (HA.out.gb HM.out hg)
        replace HP := Lib.hid (HP.out.gbm HM.out hg (by simp))
        replace HV := Lib.hid (HV.out.gb HM.out hg)
        replace HB := Lib.hid (below_gb HB.out hg HB.out.size HG.out)
        replace HM := Lib.hid hm
        clear hm hg
        have HC := Lib.hid (set_ref d L av cv x1 x2 w4 HQ.out.2.1 (by omega))
        have a0 := HA.out.1
        have a1 := HA.out.2.1
        have a2 := HA.out.2.2
        have m0 := HQ.out.1.c0
        have m1 := HQ.out.1.c1
        have p0 := HP.out.cell
        simp only at a0 a1 a2
        go_wp2_with fail
        refine HC.out.mono ?_
        rintro e w5 ⟨vv, rfl, ho, hb⟩
        clear a0 a1 a2 m0 m1 p0
        obtain ⟨aw, cw, rfl, r1, r2, r3, r4⟩ := ho.row
        replace HM := Lib.hid (HM.out.keep hb)
        replace HQ := Lib.hid (HQ.out.keep hb)
        replace HA := Lib.hid (HA.out.keep hb)
        replace HP := Lib.hid (HP.out.keep hb)
        replace HV := Lib.hid (HV.out.keep hb)
        replace HB := Lib.hid (bel_tr HB.out hb)
        clear hb
        have HG2 := Lib.hid (gb_put2 w5 (Bm + 1) (.bool d) (.slice aw (setR d L x1 x2).length cw))
        have m0 := HQ.out.1.c0
        have m1 := HQ.out.1.c1
        have f0 := HQ.out.1.free 0
        have f1 := HQ.out.1.free 1
        have hq' := Sq.put HQ.out.1 r1 (fun z e => (r4 z e).1) r3 (fun e => (r2 e).1)
        have hrg := HRg.out
        replace HM := Lib.hid (HM.out.gbR HQ.out.1 HG2.out)
        replace HP := Lib.hid (HP.out.gb HG2.out (by simp))
        replace HV := Lib.hid (HV.out.gbR HG2.out (by omega) (by omega))
        replace HB := Lib.hid (below_gb HB.out HG2.out HB.out.size (by omega))
        replace HQ := Lib.hid hq'
        clear hq' r1 r2 r3 r4 ho HC HG2 HA hrg
        go_wp2_with fail
        go_roundw
        case rel => exact ⟨q + 1, _, _, _, by omega, by go_num, HM, HQ, HP, HV, HB, by have := setR_le (d := d) (L := L) x1 x2; omega⟩
        case measure => simp [intOf]; omega
      · obtain rfl : q = l.length := by omega
        have hqi : ¬ (l.length : Int) < (l.length : Int) := by omega
        have hL60 : L.length ≤ 60 := by omega
        go_wp2_with fail
        have hb : Below wr.heap.size wr wr.drew := (Below.refl _ _).drew
        replace HM := Lib.hid (HM.out.keep hb)
        replace HQ := Lib.hid (HQ.out.keep hb)
        replace HP := Lib.hid (HP.out.keep hb)
        replace HV := Lib.hid (HV.out.keep hb)
        replace HB := Lib.hid (bel_tr HB.out hb)
        clear hb
        have A1 := Lib.hid (fun w' (h : Bx w' Bm (.pointer (some ⟨g, 0, none⟩)) 25) => load_mp (w := w') h)
        refine Sch.wp_region_tn (fun w' => Bx w' Bm (.pointer (some ⟨g, 0, none⟩)) 25) (.val 0 (.val 2 (.val 3 (.one 1 (.one 4 (.val 5 (.val 6 .done))))))) (by kernel_rfl) (by kernel_rfl) HP.out ?_
        repeat (first
          | (refine Sch.tn_q rfl rfl rfl (fun K hK => ?_); go_big_quiet_op; (first | refine hK _ ?_ | refine ⟨_, fun _ _ => rfl, hK _ ?_⟩); clear hK K)
          | (refine Sch.tn_chk _ _ _ rfl rfl rfl rfl rfl ?_; simp only [Act.put, List.setIfInBounds_toArray, List.set_cons_zero, List.set_cons_succ])
          | (refine Sch.tn_load _ _ _ _ _ rfl rfl rfl rfl (by first | exact A1.out) rfl ?_; simp only [Act.put, List.setIfInBounds_toArray, List.set_cons_zero, List.set_cons_succ]))
        generalize wr.drew = w3 at *
        have HC := Lib.hid (All_yes g d L w3 HM.out)
        refine Sch.tn_e rfl rfl (fun K hK => ?_)
        go_wp2_with fail
        refine HC.out.mono ?_
        rintro e w4 ⟨b1, b2, T, z, rfl, c1, c2, hT, hL, hlz, hz0, hz1, hb⟩
        have HI : Hid (Ik w4 b1 b2 T z) := ⟨c1, c2, hT⟩
        have HJ : Hid (T.list.drop z.toNat = L ∧ T.len ≤ 1000000 ∧ 0 ≤ z ∧ z ≤ 1000000) := ⟨hL, hlz, hz0, hz1⟩
        replace HM := Lib.hid (HM.out.keep hb)
        replace HQ := Lib.hid (HQ.out.keep hb)
        replace HP := Lib.hid (HP.out.keep hb)
        replace HV := Lib.hid (HV.out.keep hb)
        replace HB := Lib.hid (bel_tr HB.out hb)
        clear c1 c2 hT hL hlz hz0 hz1 hb HC
        refine hK _ _ HP.out ?_
        clear hK K
        have HC := Lib.hid (From_yes g d L k w4 HM.out)
        refine Sch.tn_e rfl rfl (fun K hK => ?_)
        go_wp2_with fail
        refine HC.out.mono ?_
        rintro e w5 ⟨b3, b4, T2, z2, rfl, c1, c2, hT, hL, hlz, hz0, hz1, hb⟩
        have HI2 : Hid (Ik w5 b3 b4 T2 z2) := ⟨c1, c2, hT⟩
        have HJ2 : Hid (T2.list.drop z2.toNat = L.drop (rank d L k) ∧ T2.len ≤ 1000000 ∧ 0 ≤ z2 ∧ z2 ≤ 1000000) := ⟨hL, hlz, hz0, hz1⟩
        replace HI := Lib.hid (HI.out.keep hb)
        replace HM := Lib.hid (HM.out.keep hb)
        replace HQ := Lib.hid (HQ.out.keep hb)
        replace HP := Lib.hid (HP.out.keep hb)
        replace HV := Lib.hid (HV.out.keep hb)
        replace HB := Lib.hid (bel_tr HB.out hb)
        clear c1 c2 hT hL hlz hz0 hz1 hb HC
        refine hK _ _ HP.out ?_
        clear hK K
        repeat (first
          | (refine Sch.tn_q rfl rfl rfl (fun K hK => ?_); go_big_quiet_op; (first | refine hK _ ?_ | refine ⟨_, fun _ _ => rfl, hK _ ?_⟩); clear hK K)
          | (refine Sch.tn_chk _ _ _ rfl rfl rfl rfl rfl ?_; simp only [Act.put, List.setIfInBounds_toArray, List.set_cons_zero, List.set_cons_succ]))
        refine Sch.tn_n ?_
        have v0 := HV.out.1.cell
        have m1 := HQ.out.1.c1
        have hcv := HQ.out.2.2.2.1
        go_wp2_with fail
        · clear v0 m1
          have hfl : L.length ≤ L.length := by omega
          have hfi : ((L.length : Nat) : Int) ≤ (L.length : Int) := by omega
          have hfc : ((L.length : Nat) : Int) ≤ (cv : Int) := by omega
          have hT0 : (some false == some false) = true := rfl
          have hT1 : (some true == some true) = true := rfl
          have hF1 : (some false == some true) = false := rfl
          have hq1 := seq_nil 69 #[.pointer (some ⟨b1, 0, none⟩), .pointer (some ⟨b2, 0, none⟩)]
          have hq2 := seq_nil 69 #[.pointer (some ⟨b3, 0, none⟩), .pointer (some ⟨b4, 0, none⟩)]
          have hb : Below w5.heap.size w5 w5.drew := (Below.refl _ _).drew
          replace HI := Lib.hid (HI.out.keep hb)
          replace HI2 := Lib.hid (HI2.out.keep hb)
          replace HM := Lib.hid (HM.out.keep hb)
          replace HQ := Lib.hid (HQ.out.keep hb)
          replace HP := Lib.hid (HP.out.keep hb)
          replace HV := Lib.hid (HV.out.keep hb)
          replace HB := Lib.hid (bel_tr HB.out hb)
          clear hb
          have A2 := Lib.hid (fun w' (h : Sq w' (Bm + 1) d L av cv) => load_row (w := w') h.1.c1)
          refine Sch.wp_region_tn (fun w' => Sq w' (Bm + 1) d L av cv) (.val 0 (.val 1 (.val 2 (.val 3 (.val 4 (.val 5 (.val 6 (.val 7 (.val 8 (.val 9 (.val 10 (.val 11 (.val 13 (.val 14 (.val 15 (.val 16 (.one 12 (.one 17 (.val 18 (.val 19 (.val 20 .done))))))))))))))))))))) (by kernel_rfl) (by kernel_rfl) HQ.out ?_
          generalize w5.drew = w6 at *
          rcases Nat.eq_zero_or_pos L.length with hf0 | hf0
          · have hfz : ¬ (0 : Int) < ((L.length : Nat) : Int) := by omega
            refine Sch.tn_q rfl rfl rfl (fun K hK => ?_)
            go_big_quiet_op
            first | refine hK _ ?_ | refine ⟨_, fun _ _ => rfl, hK _ ?_⟩
            clear hK K
            refine Sch.tn_q rfl rfl rfl (fun K hK => ?_)
            go_big_quiet_op
            first | refine hK _ ?_ | refine ⟨_, fun _ _ => rfl, hK _ ?_⟩
            clear hK K
            refine Sch.tn_q rfl rfl rfl (fun K hK => ?_)
            go_big_quiet_op
            first | refine hK _ ?_ | refine ⟨_, fun _ _ => rfl, hK _ ?_⟩
            clear hK K
            refine Sch.tn_q rfl rfl hT0 (fun K hK => ?_)
            go_big_quiet_op
            first | refine hK _ ?_ | refine ⟨_, fun _ _ => rfl, hK _ ?_⟩
            clear hK K
            refine Sch.tn_q rfl rfl hT0 (fun K hK => ?_)
            go_big_quiet_op
            first | refine hK _ ?_ | refine ⟨_, fun _ _ => rfl, hK _ ?_⟩
            clear hK K
            refine Sch.tn_q rfl rfl rfl (fun K hK => ?_)
            go_big_quiet_op
            first | refine hK _ ?_ | refine ⟨_, fun _ _ => rfl, hK _ ?_⟩
            clear hK K
            refine Sch.tn_q rfl rfl rfl (fun K hK => ?_)
            go_big_quiet_op
            first | refine hK _ ?_ | refine ⟨_, fun _ _ => rfl, hK _ ?_⟩
            clear hK K
            refine Sch.tn_q rfl rfl hT0 (fun K hK => ?_)
            go_big_quiet_op
            first | refine hK _ ?_ | refine ⟨_, fun _ _ => rfl, hK _ ?_⟩
            clear hK K
            refine Sch.tn_q rfl rfl hT0 (fun K hK => ?_)
            go_big_quiet_op
            first | refine hK _ ?_ | refine ⟨_, fun _ _ => rfl, hK _ ?_⟩
            clear hK K
            refine Sch.tn_q rfl rfl hT0 (fun K hK => ?_)
            go_big_quiet_op
            first | refine hK _ ?_ | refine ⟨_, fun _ _ => rfl, hK _ ?_⟩
            clear hK K
            refine Sch.tn_s _ rfl hF1 rfl ?_
            simp only [Act.put, List.setIfInBounds_toArray, List.set_cons_zero, List.set_cons_succ]
            refine Sch.tn_s _ rfl hF1 rfl ?_
            simp only [Act.put, List.setIfInBounds_toArray, List.set_cons_zero, List.set_cons_succ]
            refine Sch.tn_s _ rfl hF1 rfl ?_
            simp only [Act.put, List.setIfInBounds_toArray, List.set_cons_zero, List.set_cons_succ]
            refine Sch.tn_s _ rfl hF1 rfl ?_
            simp only [Act.put, List.setIfInBounds_toArray, List.set_cons_zero, List.set_cons_succ]
            refine Sch.tn_s _ rfl hF1 rfl ?_
            simp only [Act.put, List.setIfInBounds_toArray, List.set_cons_zero, List.set_cons_succ]
            refine Sch.tn_s _ rfl hF1 rfl ?_
            simp only [Act.put, List.setIfInBounds_toArray, List.set_cons_zero, List.set_cons_succ]
            refine Sch.tn_se _ rfl hF1 rfl ?_
            simp only [Act.put, List.setIfInBounds_toArray, List.set_cons_zero, List.set_cons_succ]
            refine Sch.tn_se _ rfl hF1 rfl ?_
            simp only [Act.put, List.setIfInBounds_toArray, List.set_cons_zero, List.set_cons_succ]
            refine Sch.tn_s _ rfl hF1 rfl ?_
            simp only [Act.put, List.setIfInBounds_toArray, List.set_cons_zero, List.set_cons_succ]
            refine Sch.tn_q rfl rfl hT0 (fun K hK => ?_)
            go_big_quiet_op
            first | refine hK _ ?_ | refine ⟨_, fun _ _ => rfl, hK _ ?_⟩
            clear hK K
            refine Sch.tn_q rfl rfl rfl (fun K hK => ?_)
            go_big_quiet_op
            first | refine hK _ ?_ | refine ⟨_, fun _ _ => rfl, hK _ ?_⟩
            clear hK K
            refine Sch.tn_n ?_
            go_wp2_with fail
            have HSz : Hid (Bm + 1 < w6.heap.size ∧ g < w6.heap.size) := ⟨HQ.out.1.lt, HM.out.lt⟩
            have hb := bel_box w6 (.cells #[.slice none 0 0] 27)
            have HXg := Lib.hid (bx_new w6 (.slice none 0 0) 27)
            have HO0 := Lib.hid (OP.nil (w6.alloc (.cells #[.slice none 0 0] 27)) (w6.heap.size + 1) E)
            have hsz : (w6.alloc (.cells #[.slice none 0 0] 27)).heap.size = w6.heap.size + 1 := by simp
            have hI0 : Inv w6 g t [] (w6.alloc (.cells #[.slice none 0 0] 27)) := ⟨_, gb_below hb (some g), fun _ => hb, HXg.out, HO0.out⟩
            have HIS := Lib.hid (HI.out.keep hb)
            clear hb HO0 HXg
            generalize w6.alloc (.cells #[.slice none 0 0] 27) = wS at *
            refine (wpIn_wide (n := 3)).1 ?_
            refine range_own (by decide) rfl enters_from rfl L (fun A => T.In A) (by have h := HJ.out.1; rw [← h]; exact from_seq _ T z wS b1 b2 rfl HJ.out.2.1 (by have := HJ.out.2; omega) (by have := HJ.out.2; omega) HIS.out.1 HIS.out.2.1) (fun pre A => Inv w6 g t pre A) (fun c A => False) (fun pre => by rw [hsz]; exact Inv.abF) (fun c => AbF.const _) (fun pre A h => by obtain ⟨_, h1, -⟩ := h; exact (HI.out.gb HM.out h1).2.2) (fun c A h => h.elim) hI0 ?a11 ?assign1 ?body1 ?done1 ?stop1
            case assign1 =>
              intro l' y A K hK
              gi_wp2
              exact hK
            case stop1 =>
              intro D c A hD h
              exact h.elim
            case body1 =>
              rintro l' pre x A ⟨v, h1, h2, h3, h4⟩ hpre
              obtain ⟨m', hm'⟩ : ∃ m', m' = pre ++ [x] := ⟨_, rfl⟩
              have hml : m'.length = pre.length + 1 := by rw [hm']; simp
              have hmS : m'.length ≤ L.length := by rw [hm']; exact hpre.length_le
              rw [← hm', hsz]
              obtain ⟨a, c, rfl, hrow, hnil, hcap, -⟩ := h4.row
              have c1 := h3.cell
              have H1 := Lib.hid h1
              have H2 := Lib.hid h2
              have H3 := Lib.hid h3
              have H4 := Lib.hid h4
              have HMm := Lib.hid hm'
              have HLl : Hid (pre.length + 1 = m'.length ∧ m'.length ≤ 60) := ⟨hml.symm, by omega⟩
              have hgt : ¬ (L.length : Int) < (m'.length : Int) := by omega
              clear h1 h2 h3 h4 hm' hpre hml hmS hrow hnil hcap hI0 HIS
              obtain hcase | hcase : (m'.length : Int) ≠ t ∨ (m'.length : Int) = t := by omega
              · have hne : ((m'.length : Int) == t) = false := by simpa using hcase
                clear hcase
                gi_wp2_with (
                  gi_at_builtin
                  refine wpListIn_appP rfl _ _ _ rfl Try.underlying27 infoP _ _ rfl (H4.out.below (bel_box _ _)) (some ⟨A.heap.size, 0, none⟩) [x] 1 rfl (lit_one A x _) (fun h => by cases h) (by have := HLl.out; simp only [List.length_cons, List.length_nil]; omega) (by have := H3.out.lt; simp; omega) ?_
                  intro v5 W5 ho5 hg5 hgr
                  rw [← HMm.out] at ho5
                  have hst := Inv.step H1.out H2.out H3.out H4.out _ hg5 ho5
                  obtain ⟨g1, g2, g3, g4, g5, g6⟩ := hst
                  have hrw := ho5.row
                  obtain ⟨a5, c5, rfl, -, -, -, -⟩ := hrw
                  have G1 := Lib.hid g1
                  have G2 := Lib.hid g2
                  have G3 := Lib.hid g3
                  have G4 := Lib.hid g4
                  have G5 := Lib.hid g5
                  have c3 := g6.cell
                  have f3 := g6.free
                  have c5' := g3.cell
                  have q1 := (HQ.out.gb HM.out g1).1.c1
                  have t0 := (HV.out.gb HM.out g1).1.cell
                  clear g1 g2 g3 g4 g5 g6 c1 ho5 hg5 hgr)
                exact ⟨G5.out, _, G1.out, fun h => G2.out (by have := HLl.out; omega), G3.out, G4.out⟩
              · exfalso; have := HLl.out; omega
            case done1 =>
              rintro D A hD ⟨v, h1, -, h3, h4⟩ hK
              obtain ⟨a, c, rfl, hrow, hnil, hcap, -⟩ := h4.row
              have hbd : Below A.heap.size A A.drew := (Below.refl _ _).drew
              have KI := Lib.hid ((HI.out.gb HM.out h1).keep hbd)
              have KI2 := Lib.hid ((HI2.out.gb HM.out h1).keep hbd)
              have KS : Hid (Rz w6.heap.size (Bm + 1) d (.slice a L.length c) L av cv A.drew) := ⟨h3.keep hbd, (HQ.out.gb HM.out h1).keep hbd⟩
              have KV := Lib.hid ((HV.out.gb HM.out h1).keep hbd)
              have KB := Lib.hid ((below_gb HB.out h1 HB.out.size HG.out).drew)
              have KD : Hid (A.drew.heap[D]? = some (.deferred (some []))) := hK
              have HSa := Lib.hid (same_ref L a av c cv A.drew (hrow.keep hbd) ((HQ.out.gb HM.out h1).keep hbd).2.1 (by omega))
              have D1 := Lib.hid (fun w' (h : Rz w6.heap.size (Bm + 1) d (.slice a L.length c) L av cv w') => load_row (w := w') h.1.cell)
              have D2 := Lib.hid (fun w' (h : Rz w6.heap.size (Bm + 1) d (.slice a L.length c) L av cv w') => load_row (w := w') h.2.1.c1)
              have D3 := Lib.hid (fun w' (h : Rz w6.heap.size (Bm + 1) d (.slice a L.length c) L av cv w') => load_mb (w := w') h.2.1)
              have hBD : w.heap.size + 1 ≠ D := by have := HSz.out.1; have := HRg.out; omega
              obtain ⟨Lf, hLf⟩ : ∃ Lf, Lf = L.drop (rank d L k) := ⟨_, rfl⟩
              have HJ3 : Hid (T2.list.drop z2.toNat = Lf ∧ T2.len ≤ 1000000 ∧ 0 ≤ z2 ∧ z2 ≤ 1000000) := by rw [hLf]; exact HJ2.out
              have hLfl : Lf.length ≤ 100 := by rw [hLf, List.length_drop]; omega
              have HLf := Lib.hid hLf
              have hwD : w.heap.size ≤ D := by have := HB.out.size; omega
              clear hLf h1 h3 h4 hK hbd hrow hnil hcap hI0 HIS hf0 hfz hfi hfc hfl
              go_wp2_with fail
              refine Sch.wp_region_tn (Rz w6.heap.size (Bm + 1) d (.slice a L.length c) L av cv) (.val 0 (.val 1 (.val 2 (.one 3 (.val 4 (.val 5 (.val 7 (.val 8 (.one 6 (.one 9 (.val 10 (.val 11 (.val 12 (.val 14 (.val 15 (.one 13 (.one 16 (.one 17 (.val 18 (.val 19 (.one 20 (.val 21 (.one 22 .done))))))))))))))))))))))) (by kernel_rfl) (by kernel_rfl) KS.out ?_
              repeat (first
                | (refine Sch.tn_q rfl rfl rfl (fun K hK => ?_); go_big_quiet_op; (first | refine hK _ ?_ | refine ⟨_, fun _ _ => rfl, hK _ ?_⟩); clear hK K)
                | (refine Sch.tn_chk _ _ _ rfl rfl rfl rfl rfl ?_; simp only [Act.put, List.setIfInBounds_toArray, List.set_cons_zero, List.set_cons_succ])
                | (refine Sch.tn_load _ _ _ _ _ rfl rfl rfl rfl (by first | exact D1.out | exact D2.out | exact D3.out) rfl ?_; simp only [Act.put, List.setIfInBounds_toArray, List.set_cons_zero, List.set_cons_succ]))
              generalize A.drew = A1 at *
              refine Sch.tn_e rfl rfl (fun K hK => ?_)
              go_wp2_with fail
              refine HSa.out.mono ?_
              rintro e A2 ⟨rfl, hb⟩
              have hDl := (Array.getElem?_eq_some_iff.1 KD.out).1
              replace KI := Lib.hid (KI.out.keep hb)
              replace KI2 := Lib.hid (KI2.out.keep hb)
              replace KS := Lib.hid (KS.out.keep hb)
              replace KV := Lib.hid (KV.out.keep hb)
              replace KB := Lib.hid (bel_tr KB.out hb)
              replace KD := Lib.hid ((hb.block D hDl).trans KD.out)
              clear hb hDl HSa
              refine hK _ _ KS.out ?_
              clear hK K
              repeat (first
                | (refine Sch.tn_q rfl rfl rfl (fun K hK => ?_); go_big_quiet_op; (first | refine hK _ ?_ | refine ⟨_, fun _ _ => rfl, hK _ ?_⟩); clear hK K)
                | (refine Sch.tn_chk _ _ _ rfl rfl rfl rfl rfl ?_; simp only [Act.put, List.setIfInBounds_toArray, List.set_cons_zero, List.set_cons_succ])
                | (refine Sch.tn_load _ _ _ _ _ rfl rfl rfl rfl (by first | exact D1.out | exact D2.out | exact D3.out) rfl ?_; simp only [Act.put, List.setIfInBounds_toArray, List.set_cons_zero, List.set_cons_succ]))
              have HC := Lib.hid (pairs_it 100 KI.out.1 KI.out.2.1 KI.out.2.2 HJ.out.1 HJ.out.2.1 HJ.out.2.2.1 HJ.out.2.2.2 (by omega))
              refine Sch.tn_e rfl rfl (fun K hK => ?_)
              go_wp2_with fail
              refine HC.out.mono ?_
              rintro e A3 ⟨v, rfl, ho, hb⟩
              rw [show L.take ((100 : Int).toNat) = L from List.take_of_length_le (by show L.length ≤ 100; omega)] at ho
              obtain ⟨aw, cw, rfl, hrw, -⟩ := ho.row
              have hDl := (Array.getElem?_eq_some_iff.1 KD.out).1
              replace KI := Lib.hid (KI.out.keep hb)
              replace KI2 := Lib.hid (KI2.out.keep hb)
              replace KS := Lib.hid (KS.out.keep hb)
              replace KV := Lib.hid (KV.out.keep hb)
              replace KB := Lib.hid (bel_tr KB.out hb)
              replace KD := Lib.hid ((hb.block D hDl).trans KD.out)
              have HSa := Lib.hid (same_ref L aw av cw cv A3 hrw KS.out.2.2.1 (by omega))
              clear hb hDl HC ho hrw
              refine hK _ _ KS.out ?_
              clear hK K
              refine Sch.tn_e rfl rfl (fun K hK => ?_)
              go_wp2_with fail
              refine HSa.out.mono ?_
              rintro e A4 ⟨rfl, hb⟩
              have hDl := (Array.getElem?_eq_some_iff.1 KD.out).1
              replace KI := Lib.hid (KI.out.keep hb)
              replace KI2 := Lib.hid (KI2.out.keep hb)
              replace KS := Lib.hid (KS.out.keep hb)
              replace KV := Lib.hid (KV.out.keep hb)
              replace KB := Lib.hid (bel_tr KB.out hb)
              replace KD := Lib.hid ((hb.block D hDl).trans KD.out)
              clear hb hDl HSa
              refine hK _ _ KS.out ?_
              clear hK K
              repeat (first
                | (refine Sch.tn_q rfl rfl rfl (fun K hK => ?_); go_big_quiet_op; (first | refine hK _ ?_ | refine ⟨_, fun _ _ => rfl, hK _ ?_⟩); clear hK K)
                | (refine Sch.tn_chk _ _ _ rfl rfl rfl rfl rfl ?_; simp only [Act.put, List.setIfInBounds_toArray, List.set_cons_zero, List.set_cons_succ])
                | (refine Sch.tn_load _ _ _ _ _ rfl rfl rfl rfl (by first | exact D1.out | exact D2.out | exact D3.out) rfl ?_; simp only [Act.put, List.setIfInBounds_toArray, List.set_cons_zero, List.set_cons_succ]))
              have HC := Lib.hid (pairs_it 100 KI2.out.1 KI2.out.2.1 KI2.out.2.2 HJ3.out.1 HJ3.out.2.1 HJ3.out.2.2.1 HJ3.out.2.2.2 (by omega))
              refine Sch.tn_e rfl rfl (fun K hK => ?_)
              go_wp2_with fail
              refine HC.out.mono ?_
              rintro e A5 ⟨v, rfl, ho, hb⟩
              rw [show Lf.take ((100 : Int).toNat) = Lf from List.take_of_length_le hLfl] at ho
              obtain ⟨ax, cx, rfl, hrx, -⟩ := ho.row
              have hDl := (Array.getElem?_eq_some_iff.1 KD.out).1
              replace KI := Lib.hid (KI.out.keep hb)
              replace KI2 := Lib.hid (KI2.out.keep hb)
              replace KS := Lib.hid (KS.out.keep hb)
              replace KV := Lib.hid (KV.out.keep hb)
              replace KB := Lib.hid (bel_tr KB.out hb)
              replace KD := Lib.hid ((hb.block D hDl).trans KD.out)
              have HRx := Lib.hid hrx
              have hfr := from_ref d L av cv k A5 KS.out.2.2.1 (by omega) hcv KS.out.2.2.2.2.2
              rw [← HLf.out] at hfr
              have HFr := Lib.hid hfr
              clear hfr
              clear hb hDl HC ho hrx
              refine hK _ _ KS.out ?_
              clear hK K
              refine Sch.tn_e rfl rfl (fun K hK => ?_)
              go_wp2_with fail
              refine HFr.out.mono ?_
              rintro e A6 ⟨ay, cy, rfl, hry, hb⟩
              have hDl := (Array.getElem?_eq_some_iff.1 KD.out).1
              replace KI := Lib.hid (KI.out.keep hb)
              replace KI2 := Lib.hid (KI2.out.keep hb)
              replace KS := Lib.hid (KS.out.keep hb)
              replace KV := Lib.hid (KV.out.keep hb)
              replace KB := Lib.hid (bel_tr KB.out hb)
              replace KD := Lib.hid ((hb.block D hDl).trans KD.out)
              have HSa := Lib.hid (same_ref Lf ax ay cx cy A6 (HRx.out.keep hb) hry (by omega))
              clear hb hDl HFr hry HRx
              refine hK _ _ KS.out ?_
              clear hK K
              refine Sch.tn_e rfl rfl (fun K hK => ?_)
              go_wp2_with fail
              refine HSa.out.mono ?_
              rintro e A7 ⟨rfl, hb⟩
              have hDl := (Array.getElem?_eq_some_iff.1 KD.out).1
              replace KI := Lib.hid (KI.out.keep hb)
              replace KI2 := Lib.hid (KI2.out.keep hb)
              replace KS := Lib.hid (KS.out.keep hb)
              replace KV := Lib.hid (KV.out.keep hb)
              replace KB := Lib.hid (bel_tr KB.out hb)
              replace KD := Lib.hid ((hb.block D hDl).trans KD.out)
              clear hb hDl HSa
              refine hK _ _ KS.out ?_
              clear hK K
              repeat (first
                | (refine Sch.tn_q rfl rfl rfl (fun K hK => ?_); go_big_quiet_op; (first | refine hK _ ?_ | refine ⟨_, fun _ _ => rfl, hK _ ?_⟩); clear hK K)
                | (refine Sch.tn_chk _ _ _ rfl rfl rfl rfl rfl ?_; simp only [Act.put, List.setIfInBounds_toArray, List.set_cons_zero, List.set_cons_succ])
                | (refine Sch.tn_load _ _ _ _ _ rfl rfl rfl rfl (by first | exact D1.out | exact D2.out | exact D3.out) rfl ?_; simp only [Act.put, List.setIfInBounds_toArray, List.set_cons_zero, List.set_cons_succ]))
              have HKn := Lib.hid (known_any A7)
              refine Sch.tn_e rfl rfl (fun K hK => ?_)
              go_wp2_with fail
              refine HKn.out.mono ?_
              rintro e A8 ⟨rfl, hb⟩
              have hDl := (Array.getElem?_eq_some_iff.1 KD.out).1
              replace KI := Lib.hid (KI.out.keep hb)
              replace KI2 := Lib.hid (KI2.out.keep hb)
              replace KS := Lib.hid (KS.out.keep hb)
              replace KV := Lib.hid (KV.out.keep hb)
              replace KB := Lib.hid (bel_tr KB.out hb)
              replace KD := Lib.hid ((hb.block D hDl).trans KD.out)
              clear hb hDl HKn
              refine hK _ _ KS.out ?_
              clear hK K
              repeat (first
                | (refine Sch.tn_q rfl rfl rfl (fun K hK => ?_); go_big_quiet_op; (first | refine hK _ ?_ | refine ⟨_, fun _ _ => rfl, hK _ ?_⟩); clear hK K)
                | (refine Sch.tn_chk _ _ _ rfl rfl rfl rfl rfl ?_; simp only [Act.put, List.setIfInBounds_toArray, List.set_cons_zero, List.set_cons_succ])
                | (refine Sch.tn_load _ _ _ _ _ rfl rfl rfl rfl (by first | exact D1.out | exact D2.out | exact D3.out) rfl ?_; simp only [Act.put, List.setIfInBounds_toArray, List.set_cons_zero, List.set_cons_succ]))
              have v0 := KV.out.2.cell
              have v1 := KV.out.2.free
              refine Sch.tn_e rfl rfl (fun K hK => ?_)
              go_wp2_with fail
              have hs := gb_setCell A8 (w.heap.size + 1) 0 (.bool true)
              have n1 : Bm + 1 ≠ w.heap.size + 1 := by have := HRg.out; omega
              have n2 : w6.heap.size ≠ w.heap.size + 1 := by have := HRg.out; have := HSz.out.1; omega
              have ZS : Hid (Rz w6.heap.size (Bm + 1) d (.slice a L.length c) L av cv (A8.setCell ⟨w.heap.size + 1, 0, none⟩ (.bool true))) := ⟨KS.out.1.gb hs (by simpa using n2), KS.out.2.1.gb hs (by simpa using n1), row_gb KS.out.2.2.1 KS.out.2.2.2.1 v0 (by simp) hs, KS.out.2.2.2⟩
              have ZV := Lib.hid (KV.out.2.set (.bool true))
              have ZB := Lib.hid (below_gb KB.out hs KB.out.size (by omega))
              have ZD : Hid ((A8.setCell ⟨w.heap.size + 1, 0, none⟩ (.bool true)).heap[D]? = some (.deferred (some []))) := (hs.block D (Array.getElem?_eq_some_iff.1 KD.out).1 (by simpa using hBD.symm)).trans KD.out
              clear v0 v1 hs n1 n2 KS KV KB KD KI KI2
              generalize A8.setCell ⟨w.heap.size + 1, 0, none⟩ (.bool true) = A9 at *
              refine hK _ _ ZS.out ?_
              clear hK K
              refine Sch.tn_n ?_
              go_wp2_with fail
              (try simp only [Exit.inBlock, Exit.then])
              refine HQ'.out _ _ _ ?_
              have hp := grownBy_putObj' A9 D (.deferred none)
              exact retM1 (v := .bool true) rfl ZD.out (ret_bool rfl (ZV.out.gb hp (by simpa using hBD)) rfl) ⟨rfl, below_gb ZB.out hp ZB.out.size hwD⟩
          · have hfz : (0 : Int) < ((L.length : Nat) : Int) := by omega
            refine Sch.tn_q rfl rfl rfl (fun K hK => ?_)
            go_big_quiet_op
            first | refine hK _ ?_ | refine ⟨_, fun _ _ => rfl, hK _ ?_⟩
            clear hK K
            refine Sch.tn_q rfl rfl rfl (fun K hK => ?_)
            go_big_quiet_op
            first | refine hK _ ?_ | refine ⟨_, fun _ _ => rfl, hK _ ?_⟩
            clear hK K
            refine Sch.tn_q rfl rfl rfl (fun K hK => ?_)
            go_big_quiet_op
            first | refine hK _ ?_ | refine ⟨_, fun _ _ => rfl, hK _ ?_⟩
            clear hK K
            refine Sch.tn_q rfl rfl hT0 (fun K hK => ?_)
            go_big_quiet_op
            first | refine hK _ ?_ | refine ⟨_, fun _ _ => rfl, hK _ ?_⟩
            clear hK K
            refine Sch.tn_q rfl rfl hT0 (fun K hK => ?_)
            go_big_quiet_op
            first | refine hK _ ?_ | refine ⟨_, fun _ _ => rfl, hK _ ?_⟩
            clear hK K
            refine Sch.tn_q rfl rfl rfl (fun K hK => ?_)
            go_big_quiet_op
            first | refine hK _ ?_ | refine ⟨_, fun _ _ => rfl, hK _ ?_⟩
            clear hK K
            refine Sch.tn_q rfl rfl rfl (fun K hK => ?_)
            go_big_quiet_op
            first | refine hK _ ?_ | refine ⟨_, fun _ _ => rfl, hK _ ?_⟩
            clear hK K
            refine Sch.tn_q rfl rfl hT0 (fun K hK => ?_)
            go_big_quiet_op
            first | refine hK _ ?_ | refine ⟨_, fun _ _ => rfl, hK _ ?_⟩
            clear hK K
            refine Sch.tn_q rfl rfl hT0 (fun K hK => ?_)
            go_big_quiet_op
            first | refine hK _ ?_ | refine ⟨_, fun _ _ => rfl, hK _ ?_⟩
            clear hK K
            refine Sch.tn_q rfl rfl hT0 (fun K hK => ?_)
            go_big_quiet_op
            first | refine hK _ ?_ | refine ⟨_, fun _ _ => rfl, hK _ ?_⟩
            clear hK K
            refine Sch.tn_q rfl rfl hT1 (fun K hK => ?_)
            go_big_quiet_op
            first | refine hK _ ?_ | refine ⟨_, fun _ _ => rfl, hK _ ?_⟩
            clear hK K
            refine Sch.tn_q rfl rfl hT1 (fun K hK => ?_)
            go_big_quiet_op
            first | refine hK _ ?_ | refine ⟨_, fun _ _ => rfl, hK _ ?_⟩
            clear hK K
            refine Sch.tn_q rfl rfl hT1 (fun K hK => ?_)
            go_big_quiet_op
            first | refine hK _ ?_ | refine ⟨_, fun _ _ => rfl, hK _ ?_⟩
            clear hK K
            refine Sch.tn_load _ _ _ _ _ rfl rfl hT1 rfl (by exact A2.out) rfl ?_
            simp only [Act.put, List.setIfInBounds_toArray, List.set_cons_zero, List.set_cons_succ]
            refine Sch.tn_q rfl rfl hT1 (fun K hK => ?_)
            go_big_quiet_op
            first | refine hK _ ?_ | refine ⟨_, fun _ _ => rfl, hK _ ?_⟩
            clear hK K
            refine Sch.tn_q rfl rfl hT1 (fun K hK => ?_)
            go_big_quiet_op
            first | refine hK _ ?_ | refine ⟨_, fun _ _ => rfl, hK _ ?_⟩
            clear hK K
            have HTl : Hid ((L.take L.length).length = L.length) := by show _ = _; rw [List.length_take]; omega
            have HC := Lib.hid (pairs_it ((L.length : Nat) : Int) HI.out.1 HI.out.2.1 HI.out.2.2 HJ.out.1 HJ.out.2.1 HJ.out.2.2.1 HJ.out.2.2.2 (by omega))
            refine Sch.tn_e rfl hT1 (fun K hK => ?_)
            go_wp2_with fail
            refine HC.out.mono ?_
            rintro e w7 ⟨v, rfl, ho, hb⟩
            rw [Int.toNat_natCast] at ho
            obtain ⟨aw, cw, hv, -⟩ := ho.row
            rw [HTl.out] at hv
            subst hv
            replace HI := Lib.hid (HI.out.keep hb)
            replace HI2 := Lib.hid (HI2.out.keep hb)
            replace HM := Lib.hid (HM.out.keep hb)
            replace HQ := Lib.hid (HQ.out.keep hb)
            replace HP := Lib.hid (HP.out.keep hb)
            replace HV := Lib.hid (HV.out.keep hb)
            replace HB := Lib.hid (bel_tr HB.out hb)
            have hs := same_ref (L.take L.length) aw av cw cv w7 ho.r.1 (HQ.out.2.1.take _) (by rw [HTl.out]; omega)
            rw [HTl.out] at hs
            have HSa := Lib.hid hs
            clear hs ho hb HC
            refine hK _ _ HQ.out ?_
            clear hK K
            refine Sch.tn_e rfl hT1 (fun K hK => ?_)
            go_wp2_with fail
            refine HSa.out.mono ?_
            rintro e w8 ⟨rfl, hb⟩
            replace HI := Lib.hid (HI.out.keep hb)
            replace HI2 := Lib.hid (HI2.out.keep hb)
            replace HM := Lib.hid (HM.out.keep hb)
            replace HQ := Lib.hid (HQ.out.keep hb)
            replace HP := Lib.hid (HP.out.keep hb)
            replace HV := Lib.hid (HV.out.keep hb)
            replace HB := Lib.hid (bel_tr HB.out hb)
            clear hb HSa
            refine hK _ _ HQ.out ?_
            clear hK K
            refine Sch.tn_q rfl rfl hT1 (fun K hK => ?_)
            go_big_quiet_op
            first | refine hK _ ?_ | refine ⟨_, fun _ _ => rfl, hK _ ?_⟩
            clear hK K
            refine Sch.tn_q rfl rfl hT0 (fun K hK => ?_)
            go_big_quiet_op
            first | refine hK _ ?_ | refine ⟨_, fun _ _ => rfl, hK _ ?_⟩
            clear hK K
            refine Sch.tn_q rfl rfl rfl (fun K hK => ?_)
            go_big_quiet_op
            first | refine hK _ ?_ | refine ⟨_, fun _ _ => rfl, hK _ ?_⟩
            clear hK K
            refine Sch.tn_n ?_
            go_wp2_with fail
            have HSz : Hid (Bm + 1 < w8.heap.size ∧ g < w8.heap.size) := ⟨HQ.out.1.lt, HM.out.lt⟩
            have hb := bel_box w8 (.cells #[.slice none 0 0] 27)
            have HXg := Lib.hid (bx_new w8 (.slice none 0 0) 27)
            have HO0 := Lib.hid (OP.nil (w8.alloc (.cells #[.slice none 0 0] 27)) (w8.heap.size + 1) E)
            have hsz : (w8.alloc (.cells #[.slice none 0 0] 27)).heap.size = w8.heap.size + 1 := by simp
            have hI0 : Inv w8 g t [] (w8.alloc (.cells #[.slice none 0 0] 27)) := ⟨_, gb_below hb (some g), fun _ => hb, HXg.out, HO0.out⟩
            have HIS := Lib.hid (HI.out.keep hb)
            clear hb HO0 HXg
            generalize w8.alloc (.cells #[.slice none 0 0] 27) = wS at *
            refine (wpIn_wide (n := 3)).1 ?_
            refine range_own (by decide) rfl enters_from rfl L (fun A => T.In A) (by have h := HJ.out.1; rw [← h]; exact from_seq _ T z wS b1 b2 rfl HJ.out.2.1 (by have := HJ.out.2; omega) (by have := HJ.out.2; omega) HIS.out.1 HIS.out.2.1) (fun pre A => Inv w8 g t pre A) (fun c A => False) (fun pre => by rw [hsz]; exact Inv.abF) (fun c => AbF.const _) (fun pre A h => by obtain ⟨_, h1, -⟩ := h; exact (HI.out.gb HM.out h1).2.2) (fun c A h => h.elim) hI0 ?a12 ?assign2 ?body2 ?done2 ?stop2
            case assign2 =>
              intro l' y A K hK
              gi_wp2
              exact hK
            case stop2 =>
              intro D c A hD h
              exact h.elim
            case body2 =>
              rintro l' pre x A ⟨v, h1, h2, h3, h4⟩ hpre
              obtain ⟨m', hm'⟩ : ∃ m', m' = pre ++ [x] := ⟨_, rfl⟩
              have hml : m'.length = pre.length + 1 := by rw [hm']; simp
              have hmS : m'.length ≤ L.length := by rw [hm']; exact hpre.length_le
              rw [← hm', hsz]
              obtain ⟨a, c, rfl, hrow, hnil, hcap, -⟩ := h4.row
              have c1 := h3.cell
              have H1 := Lib.hid h1
              have H2 := Lib.hid h2
              have H3 := Lib.hid h3
              have H4 := Lib.hid h4
              have HMm := Lib.hid hm'
              have HLl : Hid (pre.length + 1 = m'.length ∧ m'.length ≤ 60) := ⟨hml.symm, by omega⟩
              have hgt : ¬ (L.length : Int) < (m'.length : Int) := by omega
              clear h1 h2 h3 h4 hm' hpre hml hmS hrow hnil hcap hI0 HIS
              obtain hcase | hcase : (m'.length : Int) ≠ t ∨ (m'.length : Int) = t := by omega
              · have hne : ((m'.length : Int) == t) = false := by simpa using hcase
                clear hcase
                gi_wp2_with (
                  gi_at_builtin
                  refine wpListIn_appP rfl _ _ _ rfl Try.underlying27 infoP _ _ rfl (H4.out.below (bel_box _ _)) (some ⟨A.heap.size, 0, none⟩) [x] 1 rfl (lit_one A x _) (fun h => by cases h) (by have := HLl.out; simp only [List.length_cons, List.length_nil]; omega) (by have := H3.out.lt; simp; omega) ?_
                  intro v5 W5 ho5 hg5 hgr
                  rw [← HMm.out] at ho5
                  have hst := Inv.step H1.out H2.out H3.out H4.out _ hg5 ho5
                  obtain ⟨g1, g2, g3, g4, g5, g6⟩ := hst
                  have hrw := ho5.row
                  obtain ⟨a5, c5, rfl, -, -, -, -⟩ := hrw
                  have G1 := Lib.hid g1
                  have G2 := Lib.hid g2
                  have G3 := Lib.hid g3
                  have G4 := Lib.hid g4
                  have G5 := Lib.hid g5
                  have c3 := g6.cell
                  have f3 := g6.free
                  have c5' := g3.cell
                  have q1 := (HQ.out.gb HM.out g1).1.c1
                  have t0 := (HV.out.gb HM.out g1).1.cell
                  clear g1 g2 g3 g4 g5 g6 c1 ho5 hg5 hgr)
                exact ⟨G5.out, _, G1.out, fun h => G2.out (by have := HLl.out; omega), G3.out, G4.out⟩
              · exfalso; have := HLl.out; omega
            case done2 =>
              rintro D A hD ⟨v, h1, -, h3, h4⟩ hK
              obtain ⟨a, c, rfl, hrow, hnil, hcap, -⟩ := h4.row
              have hbd : Below A.heap.size A A.drew := (Below.refl _ _).drew
              have KI := Lib.hid ((HI.out.gb HM.out h1).keep hbd)
              have KI2 := Lib.hid ((HI2.out.gb HM.out h1).keep hbd)
              have KS : Hid (Rz w8.heap.size (Bm + 1) d (.slice a L.length c) L av cv A.drew) := ⟨h3.keep hbd, (HQ.out.gb HM.out h1).keep hbd⟩
              have KV := Lib.hid ((HV.out.gb HM.out h1).keep hbd)
              have KB := Lib.hid ((below_gb HB.out h1 HB.out.size HG.out).drew)
              have KD : Hid (A.drew.heap[D]? = some (.deferred (some []))) := hK
              have HSa := Lib.hid (same_ref L a av c cv A.drew (hrow.keep hbd) ((HQ.out.gb HM.out h1).keep hbd).2.1 (by omega))
              have D1 := Lib.hid (fun w' (h : Rz w8.heap.size (Bm + 1) d (.slice a L.length c) L av cv w') => load_row (w := w') h.1.cell)
              have D2 := Lib.hid (fun w' (h : Rz w8.heap.size (Bm + 1) d (.slice a L.length c) L av cv w') => load_row (w := w') h.2.1.c1)
              have D3 := Lib.hid (fun w' (h : Rz w8.heap.size (Bm + 1) d (.slice a L.length c) L av cv w') => load_mb (w := w') h.2.1)
              have hBD : w.heap.size + 1 ≠ D := by have := HSz.out.1; have := HRg.out; omega
              obtain ⟨Lf, hLf⟩ : ∃ Lf, Lf = L.drop (rank d L k) := ⟨_, rfl⟩
              have HJ3 : Hid (T2.list.drop z2.toNat = Lf ∧ T2.len ≤ 1000000 ∧ 0 ≤ z2 ∧ z2 ≤ 1000000) := by rw [hLf]; exact HJ2.out
              have hLfl : Lf.length ≤ 100 := by rw [hLf, List.length_drop]; omega
              have HLf := Lib.hid hLf
              have hwD : w.heap.size ≤ D := by have := HB.out.size; omega
              clear hLf h1 h3 h4 hK hbd hrow hnil hcap hI0 HIS hf0 hfz hfi hfc hfl
              go_wp2_with fail
              refine Sch.wp_region_tn (Rz w8.heap.size (Bm + 1) d (.slice a L.length c) L av cv) (.val 0 (.val 1 (.val 2 (.one 3 (.val 4 (.val 5 (.val 7 (.val 8 (.one 6 (.one 9 (.val 10 (.val 11 (.val 12 (.val 14 (.val 15 (.one 13 (.one 16 (.one 17 (.val 18 (.val 19 (.one 20 (.val 21 (.one 22 .done))))))))))))))))))))))) (by kernel_rfl) (by kernel_rfl) KS.out ?_
              repeat (first
                | (refine Sch.tn_q rfl rfl rfl (fun K hK => ?_); go_big_quiet_op; (first | refine hK _ ?_ | refine ⟨_, fun _ _ => rfl, hK _ ?_⟩); clear hK K)
                | (refine Sch.tn_chk _ _ _ rfl rfl rfl rfl rfl ?_; simp only [Act.put, List.setIfInBounds_toArray, List.set_cons_zero, List.set_cons_succ])
                | (refine Sch.tn_load _ _ _ _ _ rfl rfl rfl rfl (by first | exact D1.out | exact D2.out | exact D3.out) rfl ?_; simp only [Act.put, List.setIfInBounds_toArray, List.set_cons_zero, List.set_cons_succ]))
              generalize A.drew = A1 at *
              refine Sch.tn_e rfl rfl (fun K hK => ?_)
              go_wp2_with fail
              refine HSa.out.mono ?_
              rintro e A2 ⟨rfl, hb⟩
              have hDl := (Array.getElem?_eq_some_iff.1 KD.out).1
              replace KI := Lib.hid (KI.out.keep hb)
              replace KI2 := Lib.hid (KI2.out.keep hb)
              replace KS := Lib.hid (KS.out.keep hb)
              replace KV := Lib.hid (KV.out.keep hb)
              replace KB := Lib.hid (bel_tr KB.out hb)
              replace KD := Lib.hid ((hb.block D hDl).trans KD.out)
              clear hb hDl HSa
              refine hK _ _ KS.out ?_
              clear hK K
              repeat (first
                | (refine Sch.tn_q rfl rfl rfl (fun K hK => ?_); go_big_quiet_op; (first | refine hK _ ?_ | refine ⟨_, fun _ _ => rfl, hK _ ?_⟩); clear hK K)
                | (refine Sch.tn_chk _ _ _ rfl rfl rfl rfl rfl ?_; simp only [Act.put, List.setIfInBounds_toArray, List.set_cons_zero, List.set_cons_succ])
                | (refine Sch.tn_load _ _ _ _ _ rfl rfl rfl rfl (by first | exact D1.out | exact D2.out | exact D3.out) rfl ?_; simp only [Act.put, List.setIfInBounds_toArray, List.set_cons_zero, List.set_cons_succ]))
              have HC := Lib.hid (pairs_it 100 KI.out.1 KI.out.2.1 KI.out.2.2 HJ.out.1 HJ.out.2.1 HJ.out.2.2.1 HJ.out.2.2.2 (by omega))
              refine Sch.tn_e rfl rfl (fun K hK => ?_)
              go_wp2_with fail
              refine HC.out.mono ?_
              rintro e A3 ⟨v, rfl, ho, hb⟩
              rw [show L.take ((100 : Int).toNat) = L from List.take_of_length_le (by show L.length ≤ 100; omega)] at ho
              obtain ⟨aw, cw, rfl, hrw, -⟩ := ho.row
              have hDl := (Array.getElem?_eq_some_iff.1 KD.out).1
              replace KI := Lib.hid (KI.out.keep hb)
              replace KI2 := Lib.hid (KI2.out.keep hb)
              replace KS := Lib.hid (KS.out.keep hb)
              replace KV := Lib.hid (KV.out.keep hb)
              replace KB := Lib.hid (bel_tr KB.out hb)
              replace KD := Lib.hid ((hb.block D hDl).trans KD.out)
              have HSa := Lib.hid (same_ref L aw av cw cv A3 hrw KS.out.2.2.1 (by omega))
              clear hb hDl HC ho hrw
              refine hK _ _ KS.out ?_
              clear hK K
              refine Sch.tn_e rfl rfl (fun K hK => ?_)
              go_wp2_with fail
              refine HSa.out.mono ?_
              rintro e A4 ⟨rfl, hb⟩
              have hDl := (Array.getElem?_eq_some_iff.1 KD.out).1
              replace KI := Lib.hid (KI.out.keep hb)
              replace KI2 := Lib.hid (KI2.out.keep hb)
              replace KS := Lib.hid (KS.out.keep hb)
              replace KV := Lib.hid (KV.out.keep hb)
              replace KB := Lib.hid (bel_tr KB.out hb)
              replace KD := Lib.hid ((hb.block D hDl).trans KD.out)
              clear hb hDl HSa
              refine hK _ _ KS.out ?_
              clear hK K
              repeat (first
                | (refine Sch.tn_q rfl rfl rfl (fun K hK => ?_); go_big_quiet_op; (first | refine hK _ ?_ | refine ⟨_, fun _ _ => rfl, hK _ ?_⟩); clear hK K)
                | (refine Sch.tn_chk _ _ _ rfl rfl rfl rfl rfl ?_; simp only [Act.put, List.setIfInBounds_toArray, List.set_cons_zero, List.set_cons_succ])
                | (refine Sch.tn_load _ _ _ _ _ rfl rfl rfl rfl (by first | exact D1.out | exact D2.out | exact D3.out) rfl ?_; simp only [Act.put, List.setIfInBounds_toArray, List.set_cons_zero, List.set_cons_succ]))
              have HC := Lib.hid (pairs_it 100 KI2.out.1 KI2.out.2.1 KI2.out.2.2 HJ3.out.1 HJ3.out.2.1 HJ3.out.2.2.1 HJ3.out.2.2.2 (by omega))
              refine Sch.tn_e rfl rfl (fun K hK => ?_)
              go_wp2_with fail
              refine HC.out.mono ?_
              rintro e A5 ⟨v, rfl, ho, hb⟩
              rw [show Lf.take ((100 : Int).toNat) = Lf from List.take_of_length_le hLfl] at ho
              obtain ⟨ax, cx, rfl, hrx, -⟩ := ho.row
              have hDl := (Array.getElem?_eq_some_iff.1 KD.out).1
              replace KI := Lib.hid (KI.out.keep hb)
              replace KI2 := Lib.hid (KI2.out.keep hb)
              replace KS := Lib.hid (KS.out.keep hb)
              replace KV := Lib.hid (KV.out.keep hb)
              replace KB := Lib.hid (bel_tr KB.out hb)
              replace KD := Lib.hid ((hb.block D hDl).trans KD.out)
              have HRx := Lib.hid hrx
              have hfr := from_ref d L av cv k A5 KS.out.2.2.1 (by omega) hcv KS.out.2.2.2.2.2
              rw [← HLf.out] at hfr
              have HFr := Lib.hid hfr
              clear hfr
              clear hb hDl HC ho hrx
              refine hK _ _ KS.out ?_
              clear hK K
              refine Sch.tn_e rfl rfl (fun K hK => ?_)
              go_wp2_with fail
              refine HFr.out.mono ?_
              rintro e A6 ⟨ay, cy, rfl, hry, hb⟩
              have hDl := (Array.getElem?_eq_some_iff.1 KD.out).1
              replace KI := Lib.hid (KI.out.keep hb)
              replace KI2 := Lib.hid (KI2.out.keep hb)
              replace KS := Lib.hid (KS.out.keep hb)
              replace KV := Lib.hid (KV.out.keep hb)
              replace KB := Lib.hid (bel_tr KB.out hb)
              replace KD := Lib.hid ((hb.block D hDl).trans KD.out)
              have HSa := Lib.hid (same_ref Lf ax ay cx cy A6 (HRx.out.keep hb) hry (by omega))
              clear hb hDl HFr hry HRx
              refine hK _ _ KS.out ?_
              clear hK K
              refine Sch.tn_e rfl rfl (fun K hK => ?_)
              go_wp2_with fail
              refine HSa.out.mono ?_
              rintro e A7 ⟨rfl, hb⟩
              have hDl := (Array.getElem?_eq_some_iff.1 KD.out).1
              replace KI := Lib.hid (KI.out.keep hb)
              replace KI2 := Lib.hid (KI2.out.keep hb)
              replace KS := Lib.hid (KS.out.keep hb)
              replace KV := Lib.hid (KV.out.keep hb)
              replace KB := Lib.hid (bel_tr KB.out hb)
              replace KD := Lib.hid ((hb.block D hDl).trans KD.out)
              clear hb hDl HSa
              refine hK _ _ KS.out ?_
              clear hK K
              repeat (first
                | (refine Sch.tn_q rfl rfl rfl (fun K hK => ?_); go_big_quiet_op; (first | refine hK _ ?_ | refine ⟨_, fun _ _ => rfl, hK _ ?_⟩); clear hK K)
                | (refine Sch.tn_chk _ _ _ rfl rfl rfl rfl rfl ?_; simp only [Act.put, List.setIfInBounds_toArray, List.set_cons_zero, List.set_cons_succ])
                | (refine Sch.tn_load _ _ _ _ _ rfl rfl rfl rfl (by first | exact D1.out | exact D2.out | exact D3.out) rfl ?_; simp only [Act.put, List.setIfInBounds_toArray, List.set_cons_zero, List.set_cons_succ]))
              have HKn := Lib.hid (known_any A7)
              refine Sch.tn_e rfl rfl (fun K hK => ?_)
              go_wp2_with fail
              refine HKn.out.mono ?_
              rintro e A8 ⟨rfl, hb⟩
              have hDl := (Array.getElem?_eq_some_iff.1 KD.out).1
              replace KI := Lib.hid (KI.out.keep hb)
              replace KI2 := Lib.hid (KI2.out.keep hb)
              replace KS := Lib.hid (KS.out.keep hb)
              replace KV := Lib.hid (KV.out.keep hb)
              replace KB := Lib.hid (bel_tr KB.out hb)
              replace KD := Lib.hid ((hb.block D hDl).trans KD.out)
              clear hb hDl HKn
              refine hK _ _ KS.out ?_
              clear hK K
              repeat (first
                | (refine Sch.tn_q rfl rfl rfl (fun K hK => ?_); go_big_quiet_op; (first | refine hK _ ?_ | refine ⟨_, fun _ _ => rfl, hK _ ?_⟩); clear hK K)
                | (refine Sch.tn_chk _ _ _ rfl rfl rfl rfl rfl ?_; simp only [Act.put, List.setIfInBounds_toArray, List.set_cons_zero, List.set_cons_succ])
                | (refine Sch.tn_load _ _ _ _ _ rfl rfl rfl rfl (by first | exact D1.out | exact D2.out | exact D3.out) rfl ?_; simp only [Act.put, List.setIfInBounds_toArray, List.set_cons_zero, List.set_cons_succ]))
              have v0 := KV.out.2.cell
              have v1 := KV.out.2.free
              refine Sch.tn_e rfl rfl (fun K hK => ?_)
              go_wp2_with fail
              have hs := gb_setCell A8 (w.heap.size + 1) 0 (.bool true)
              have n1 : Bm + 1 ≠ w.heap.size + 1 := by have := HRg.out; omega
              have n2 : w8.heap.size ≠ w.heap.size + 1 := by have := HRg.out; have := HSz.out.1; omega
              have ZS : Hid (Rz w8.heap.size (Bm + 1) d (.slice a L.length c) L av cv (A8.setCell ⟨w.heap.size + 1, 0, none⟩ (.bool true))) := ⟨KS.out.1.gb hs (by simpa using n2), KS.out.2.1.gb hs (by simpa using n1), row_gb KS.out.2.2.1 KS.out.2.2.2.1 v0 (by simp) hs, KS.out.2.2.2⟩
              have ZV := Lib.hid (KV.out.2.set (.bool true))
              have ZB := Lib.hid (below_gb KB.out hs KB.out.size (by omega))
              have ZD : Hid ((A8.setCell ⟨w.heap.size + 1, 0, none⟩ (.bool true)).heap[D]? = some (.deferred (some []))) := (hs.block D (Array.getElem?_eq_some_iff.1 KD.out).1 (by simpa using hBD.symm)).trans KD.out
              clear v0 v1 hs n1 n2 KS KV KB KD KI KI2
              generalize A8.setCell ⟨w.heap.size + 1, 0, none⟩ (.bool true) = A9 at *
              refine hK _ _ ZS.out ?_
              clear hK K
              refine Sch.tn_n ?_
              go_wp2_with fail
              (try simp only [Exit.inBlock, Exit.then])
              refine HQ'.out _ _ _ ?_
              have hp := grownBy_putObj' A9 D (.deferred none)
              exact retM1 (v := .bool true) rfl ZD.out (ret_bool rfl (ZV.out.gb hp (by simpa using hBD)) rfl) ⟨rfl, below_gb ZB.out hp ZB.out.size hwD⟩
        · obtain ⟨f, rfl⟩ : ∃ f : Nat, t = (f : Int) := ⟨t.toNat, by omega⟩
          clear v0 m1
          have hfl : f ≤ L.length := by omega
          have hfi : ((f : Nat) : Int) ≤ (L.length : Int) := by omega
          have hfc : ((f : Nat) : Int) ≤ (cv : Int) := by omega
          have hT0 : (some false == some false) = true := rfl
          have hT1 : (some true == some true) = true := rfl
          have hF1 : (some false == some true) = false := rfl
          have hq1 := seq_nil 69 #[.pointer (some ⟨b1, 0, none⟩), .pointer (some ⟨b2, 0, none⟩)]
          have hq2 := seq_nil 69 #[.pointer (some ⟨b3, 0, none⟩), .pointer (some ⟨b4, 0, none⟩)]
          have hb : Below w5.heap.size w5 w5.drew := (Below.refl _ _).drew
          replace HI := Lib.hid (HI.out.keep hb)
          replace HI2 := Lib.hid (HI2.out.keep hb)
          replace HM := Lib.hid (HM.out.keep hb)
          replace HQ := Lib.hid (HQ.out.keep hb)
          replace HP := Lib.hid (HP.out.keep hb)
          replace HV := Lib.hid (HV.out.keep hb)
          replace HB := Lib.hid (bel_tr HB.out hb)
          clear hb
          have A2 := Lib.hid (fun w' (h : Sq w' (Bm + 1) d L av cv) => load_row (w := w') h.1.c1)
          refine Sch.wp_region_tn (fun w' => Sq w' (Bm + 1) d L av cv) (.val 0 (.val 1 (.val 2 (.val 3 (.val 4 (.val 5 (.val 6 (.val 7 (.val 8 (.val 9 (.val 10 (.val 11 (.val 13 (.val 14 (.val 15 (.val 16 (.one 12 (.one 17 (.val 18 (.val 19 (.val 20 .done))))))))))))))))))))) (by kernel_rfl) (by kernel_rfl) HQ.out ?_
          generalize w5.drew = w6 at *
          rcases Nat.eq_zero_or_pos f with hf0 | hf0
          · have hfz : ¬ (0 : Int) < ((f : Nat) : Int) := by omega
            refine Sch.tn_q rfl rfl rfl (fun K hK => ?_)
            go_big_quiet_op
            first | refine hK _ ?_ | refine ⟨_, fun _ _ => rfl, hK _ ?_⟩
            clear hK K
            refine Sch.tn_q rfl rfl rfl (fun K hK => ?_)
            go_big_quiet_op
            first | refine hK _ ?_ | refine ⟨_, fun _ _ => rfl, hK _ ?_⟩
            clear hK K
            refine Sch.tn_q rfl rfl rfl (fun K hK => ?_)
            go_big_quiet_op
            first | refine hK _ ?_ | refine ⟨_, fun _ _ => rfl, hK _ ?_⟩
            clear hK K
            refine Sch.tn_q rfl rfl hT0 (fun K hK => ?_)
            go_big_quiet_op
            first | refine hK _ ?_ | refine ⟨_, fun _ _ => rfl, hK _ ?_⟩
            clear hK K
            refine Sch.tn_q rfl rfl hT0 (fun K hK => ?_)
            go_big_quiet_op
            first | refine hK _ ?_ | refine ⟨_, fun _ _ => rfl, hK _ ?_⟩
            clear hK K
            refine Sch.tn_q rfl rfl rfl (fun K hK => ?_)
            go_big_quiet_op
            first | refine hK _ ?_ | refine ⟨_, fun _ _ => rfl, hK _ ?_⟩
            clear hK K
            refine Sch.tn_q rfl rfl rfl (fun K hK => ?_)
            go_big_quiet_op
            first | refine hK _ ?_ | refine ⟨_, fun _ _ => rfl, hK _ ?_⟩
            clear hK K
            refine Sch.tn_q rfl rfl hT0 (fun K hK => ?_)
            go_big_quiet_op
            first | refine hK _ ?_ | refine ⟨_, fun _ _ => rfl, hK _ ?_⟩
            clear hK K
            refine Sch.tn_q rfl rfl hT0 (fun K hK => ?_)
            go_big_quiet_op
            first | refine hK _ ?_ | refine ⟨_, fun _ _ => rfl, hK _ ?_⟩
            clear hK K
            refine Sch.tn_q rfl rfl hT0 (fun K hK => ?_)
            go_big_quiet_op
            first | refine hK _ ?_ | refine ⟨_, fun _ _ => rfl, hK _ ?_⟩
            clear hK K
            refine Sch.tn_s _ rfl hF1 rfl ?_
            simp only [Act.put, List.setIfInBounds_toArray, List.set_cons_zero, List.set_cons_succ]
            refine Sch.tn_s _ rfl hF1 rfl ?_
            simp only [Act.put, List.setIfInBounds_toArray, List.set_cons_zero, List.set_cons_succ]
            refine Sch.tn_s _ rfl hF1 rfl ?_
            simp only [Act.put, List.setIfInBounds_toArray, List.set_cons_zero, List.set_cons_succ]
            refine Sch.tn_s _ rfl hF1 rfl ?_
            simp only [Act.put, List.setIfInBounds_toArray, List.set_cons_zero, List.set_cons_succ]
            refine Sch.tn_s _ rfl hF1 rfl ?_
            simp only [Act.put, List.setIfInBounds_toArray, List.set_cons_zero, List.set_cons_succ]
            refine Sch.tn_s _ rfl hF1 rfl ?_
            simp only [Act.put, List.setIfInBounds_toArray, List.set_cons_zero, List.set_cons_succ]
            refine Sch.tn_se _ rfl hF1 rfl ?_
            simp only [Act.put, List.setIfInBounds_toArray, List.set_cons_zero, List.set_cons_succ]
            refine Sch.tn_se _ rfl hF1 rfl ?_
            simp only [Act.put, List.setIfInBounds_toArray, List.set_cons_zero, List.set_cons_succ]
            refine Sch.tn_s _ rfl hF1 rfl ?_
            simp only [Act.put, List.setIfInBounds_toArray, List.set_cons_zero, List.set_cons_succ]
            refine Sch.tn_q rfl rfl hT0 (fun K hK => ?_)
            go_big_quiet_op
            first | refine hK _ ?_ | refine ⟨_, fun _ _ => rfl, hK _ ?_⟩
            clear hK K
            refine Sch.tn_q rfl rfl rfl (fun K hK => ?_)
            go_big_quiet_op
            first | refine hK _ ?_ | refine ⟨_, fun _ _ => rfl, hK _ ?_⟩
            clear hK K
            refine Sch.tn_n ?_
            go_wp2_with fail
            have HSz : Hid (Bm + 1 < w6.heap.size ∧ g < w6.heap.size) := ⟨HQ.out.1.lt, HM.out.lt⟩
            have hb := bel_box w6 (.cells #[.slice none 0 0] 27)
            have HXg := Lib.hid (bx_new w6 (.slice none 0 0) 27)
            have HO0 := Lib.hid (OP.nil (w6.alloc (.cells #[.slice none 0 0] 27)) (w6.heap.size + 1) E)
            have hsz : (w6.alloc (.cells #[.slice none 0 0] 27)).heap.size = w6.heap.size + 1 := by simp
            have hI0 : Inv w6 g (f : Int) [] (w6.alloc (.cells #[.slice none 0 0] 27)) := ⟨_, gb_below hb (some g), fun _ => hb, HXg.out, HO0.out⟩
            have HIS := Lib.hid (HI.out.keep hb)
            clear hb HO0 HXg
            generalize w6.alloc (.cells #[.slice none 0 0] 27) = wS at *
            refine (wpIn_wide (n := 3)).1 ?_
            refine range_own (by decide) rfl enters_from rfl L (fun A => T.In A) (by have h := HJ.out.1; rw [← h]; exact from_seq _ T z wS b1 b2 rfl HJ.out.2.1 (by have := HJ.out.2; omega) (by have := HJ.out.2; omega) HIS.out.1 HIS.out.2.1) (fun pre A => Inv w6 g (f : Int) pre A) (fun c A => False) (fun pre => by rw [hsz]; exact Inv.abF) (fun c => AbF.const _) (fun pre A h => by obtain ⟨_, h1, -⟩ := h; exact (HI.out.gb HM.out h1).2.2) (fun c A h => h.elim) hI0 ?a13 ?assign3 ?body3 ?done3 ?stop3
            case assign3 =>
              intro l' y A K hK
              gi_wp2
              exact hK
            case stop3 =>
              intro D c A hD h
              exact h.elim
            case body3 =>
              rintro l' pre x A ⟨v, h1, h2, h3, h4⟩ hpre
              obtain ⟨m', hm'⟩ : ∃ m', m' = pre ++ [x] := ⟨_, rfl⟩
              have hml : m'.length = pre.length + 1 := by rw [hm']; simp
              have hmS : m'.length ≤ L.length := by rw [hm']; exact hpre.length_le
              rw [← hm', hsz]
              obtain ⟨a, c, rfl, hrow, hnil, hcap, -⟩ := h4.row
              have c1 := h3.cell
              have H1 := Lib.hid h1
              have H2 := Lib.hid h2
              have H3 := Lib.hid h3
              have H4 := Lib.hid h4
              have HMm := Lib.hid hm'
              have HLl : Hid (pre.length + 1 = m'.length ∧ m'.length ≤ 60) := ⟨hml.symm, by omega⟩
              have hgt : ¬ (L.length : Int) < (m'.length : Int) := by omega
              clear h1 h2 h3 h4 hm' hpre hml hmS hrow hnil hcap hI0 HIS
              obtain hcase | hcase : (m'.length : Int) ≠ (f : Int) ∨ (m'.length : Int) = (f : Int) := by omega
              · have hne : ((m'.length : Int) == (f : Int)) = false := by simpa using hcase
                clear hcase
                gi_wp2_with (
                  gi_at_builtin
                  refine wpListIn_appP rfl _ _ _ rfl Try.underlying27 infoP _ _ rfl (H4.out.below (bel_box _ _)) (some ⟨A.heap.size, 0, none⟩) [x] 1 rfl (lit_one A x _) (fun h => by cases h) (by have := HLl.out; simp only [List.length_cons, List.length_nil]; omega) (by have := H3.out.lt; simp; omega) ?_
                  intro v5 W5 ho5 hg5 hgr
                  rw [← HMm.out] at ho5
                  have hst := Inv.step H1.out H2.out H3.out H4.out _ hg5 ho5
                  obtain ⟨g1, g2, g3, g4, g5, g6⟩ := hst
                  have hrw := ho5.row
                  obtain ⟨a5, c5, rfl, -, -, -, -⟩ := hrw
                  have G1 := Lib.hid g1
                  have G2 := Lib.hid g2
                  have G3 := Lib.hid g3
                  have G4 := Lib.hid g4
                  have G5 := Lib.hid g5
                  have c3 := g6.cell
                  have f3 := g6.free
                  have c5' := g3.cell
                  have q1 := (HQ.out.gb HM.out g1).1.c1
                  have t0 := (HV.out.gb HM.out g1).1.cell
                  clear g1 g2 g3 g4 g5 g6 c1 ho5 hg5 hgr)
                exact ⟨G5.out, _, G1.out, fun h => G2.out (by have := HLl.out; omega), G3.out, G4.out⟩
              · exfalso; have := HLl.out; omega
            case done3 =>
              rintro D A hD ⟨v, h1, -, h3, h4⟩ hK
              obtain ⟨a, c, rfl, hrow, hnil, hcap, -⟩ := h4.row
              have hbd : Below A.heap.size A A.drew := (Below.refl _ _).drew
              have KI := Lib.hid ((HI.out.gb HM.out h1).keep hbd)
              have KI2 := Lib.hid ((HI2.out.gb HM.out h1).keep hbd)
              have KS : Hid (Rz w6.heap.size (Bm + 1) d (.slice a L.length c) L av cv A.drew) := ⟨h3.keep hbd, (HQ.out.gb HM.out h1).keep hbd⟩
              have KV := Lib.hid ((HV.out.gb HM.out h1).keep hbd)
              have KB := Lib.hid ((below_gb HB.out h1 HB.out.size HG.out).drew)
              have KD : Hid (A.drew.heap[D]? = some (.deferred (some []))) := hK
              have HSa := Lib.hid (same_ref L a av c cv A.drew (hrow.keep hbd) ((HQ.out.gb HM.out h1).keep hbd).2.1 (by omega))
              have D1 := Lib.hid (fun w' (h : Rz w6.heap.size (Bm + 1) d (.slice a L.length c) L av cv w') => load_row (w := w') h.1.cell)
              have D2 := Lib.hid (fun w' (h : Rz w6.heap.size (Bm + 1) d (.slice a L.length c) L av cv w') => load_row (w := w') h.2.1.c1)
              have D3 := Lib.hid (fun w' (h : Rz w6.heap.size (Bm + 1) d (.slice a L.length c) L av cv w') => load_mb (w := w') h.2.1)
              have hBD : w.heap.size + 1 ≠ D := by have := HSz.out.1; have := HRg.out; omega
              obtain ⟨Lf, hLf⟩ : ∃ Lf, Lf = L.drop (rank d L k) := ⟨_, rfl⟩
              have HJ3 : Hid (T2.list.drop z2.toNat = Lf ∧ T2.len ≤ 1000000 ∧ 0 ≤ z2 ∧ z2 ≤ 1000000) := by rw [hLf]; exact HJ2.out
              have hLfl : Lf.length ≤ 100 := by rw [hLf, List.length_drop]; omega
              have HLf := Lib.hid hLf
              have hwD : w.heap.size ≤ D := by have := HB.out.size; omega
              clear hLf h1 h3 h4 hK hbd hrow hnil hcap hI0 HIS hf0 hfz hfi hfc hfl
              go_wp2_with fail
              refine Sch.wp_region_tn (Rz w6.heap.size (Bm + 1) d (.slice a L.length c) L av cv) (.val 0 (.val 1 (.val 2 (.one 3 (.val 4 (.val 5 (.val 7 (.val 8 (.one 6 (.one 9 (.val 10 (.val 11 (.val 12 (.val 14 (.val 15 (.one 13 (.one 16 (.one 17 (.val 18 (.val 19 (.one 20 (.val 21 (.one 22 .done))))))))))))))))))))))) (by kernel_rfl) (by kernel_rfl) KS.out ?_
              repeat (first
                | (refine Sch.tn_q rfl rfl rfl (fun K hK => ?_); go_big_quiet_op; (first | refine hK _ ?_ | refine ⟨_, fun _ _ => rfl, hK _ ?_⟩); clear hK K)
                | (refine Sch.tn_chk _ _ _ rfl rfl rfl rfl rfl ?_; simp only [Act.put, List.setIfInBounds_toArray, List.set_cons_zero, List.set_cons_succ])
                | (refine Sch.tn_load _ _ _ _ _ rfl rfl rfl rfl (by first | exact D1.out | exact D2.out | exact D3.out) rfl ?_; simp only [Act.put, List.setIfInBounds_toArray, List.set_cons_zero, List.set_cons_succ]))
              generalize A.drew = A1 at *
              refine Sch.tn_e rfl rfl (fun K hK => ?_)
              go_wp2_with fail
              refine HSa.out.mono ?_
              rintro e A2 ⟨rfl, hb⟩
              have hDl := (Array.getElem?_eq_some_iff.1 KD.out).1
              replace KI := Lib.hid (KI.out.keep hb)
              replace KI2 := Lib.hid (KI2.out.keep hb)
              replace KS := Lib.hid (KS.out.keep hb)
              replace KV := Lib.hid (KV.out.keep hb)
              replace KB := Lib.hid (bel_tr KB.out hb)
              replace KD := Lib.hid ((hb.block D hDl).trans KD.out)
              clear hb hDl HSa
              refine hK _ _ KS.out ?_
              clear hK K
              repeat (first
                | (refine Sch.tn_q rfl rfl rfl (fun K hK => ?_); go_big_quiet_op; (first | refine hK _ ?_ | refine ⟨_, fun _ _ => rfl, hK _ ?_⟩); clear hK K)
                | (refine Sch.tn_chk _ _ _ rfl rfl rfl rfl rfl ?_; simp only [Act.put, List.setIfInBounds_toArray, List.set_cons_zero, List.set_cons_succ])
                | (refine Sch.tn_load _ _ _ _ _ rfl rfl rfl rfl (by first | exact D1.out | exact D2.out | exact D3.out) rfl ?_; simp only [Act.put, List.setIfInBounds_toArray, List.set_cons_zero, List.set_cons_succ]))
              have HC := Lib.hid (pairs_it 100 KI.out.1 KI.out.2.1 KI.out.2.2 HJ.out.1 HJ.out.2.1 HJ.out.2.2.1 HJ.out.2.2.2 (by omega))
              refine Sch.tn_e rfl rfl (fun K hK => ?_)
              go_wp2_with fail
              refine HC.out.mono ?_
              rintro e A3 ⟨v, rfl, ho, hb⟩
              rw [show L.take ((100 : Int).toNat) = L from List.take_of_length_le (by show L.length ≤ 100; omega)] at ho
              obtain ⟨aw, cw, rfl, hrw, -⟩ := ho.row
              have hDl := (Array.getElem?_eq_some_iff.1 KD.out).1
              replace KI := Lib.hid (KI.out.keep hb)
              replace KI2 := Lib.hid (KI2.out.keep hb)
              replace KS := Lib.hid (KS.out.keep hb)
              replace KV := Lib.hid (KV.out.keep hb)
              replace KB := Lib.hid (bel_tr KB.out hb)
              replace KD := Lib.hid ((hb.block D hDl).trans KD.out)
              have HSa := Lib.hid (same_ref L aw av cw cv A3 hrw KS.out.2.2.1 (by omega))
              clear hb hDl HC ho hrw
              refine hK _ _ KS.out ?_
              clear hK K
              refine Sch.tn_e rfl rfl (fun K hK => ?_)
              go_wp2_with fail
              refine HSa.out.mono ?_
              rintro e A4 ⟨rfl, hb⟩
              have hDl := (Array.getElem?_eq_some_iff.1 KD.out).1
              replace KI := Lib.hid (KI.out.keep hb)
              replace KI2 := Lib.hid (KI2.out.keep hb)
              replace KS := Lib.hid (KS.out.keep hb)
              replace KV := Lib.hid (KV.out.keep hb)
              replace KB := Lib.hid (bel_tr KB.out hb)
              replace KD := Lib.hid ((hb.block D hDl).trans KD.out)
              clear hb hDl HSa
              refine hK _ _ KS.out ?_
              clear hK K
              repeat (first
                | (refine Sch.tn_q rfl rfl rfl (fun K hK => ?_); go_big_quiet_op; (first | refine hK _ ?_ | refine ⟨_, fun _ _ => rfl, hK _ ?_⟩); clear hK K)
                | (refine Sch.tn_chk _ _ _ rfl rfl rfl rfl rfl ?_; simp only [Act.put, List.setIfInBounds_toArray, List.set_cons_zero, List.set_cons_succ])
                | (refine Sch.tn_load _ _ _ _ _ rfl rfl rfl rfl (by first | exact D1.out | exact D2.out | exact D3.out) rfl ?_; simp only [Act.put, List.setIfInBounds_toArray, List.set_cons_zero, List.set_cons_succ]))
              have HC := Lib.hid (pairs_it 100 KI2.out.1 KI2.out.2.1 KI2.out.2.2 HJ3.out.1 HJ3.out.2.1 HJ3.out.2.2.1 HJ3.out.2.2.2 (by omega))
              refine Sch.tn_e rfl rfl (fun K hK => ?_)
              go_wp2_with fail
              refine HC.out.mono ?_
              rintro e A5 ⟨v, rfl, ho, hb⟩
              rw [show Lf.take ((100 : Int).toNat) = Lf from List.take_of_length_le hLfl] at ho
              obtain ⟨ax, cx, rfl, hrx, -⟩ := ho.row
              have hDl := (Array.getElem?_eq_some_iff.1 KD.out).1
              replace KI := Lib.hid (KI.out.keep hb)
              replace KI2 := Lib.hid (KI2.out.keep hb)
              replace KS := Lib.hid (KS.out.keep hb)
              replace KV := Lib.hid (KV.out.keep hb)
              replace KB := Lib.hid (bel_tr KB.out hb)
              replace KD := Lib.hid ((hb.block D hDl).trans KD.out)
              have HRx := Lib.hid hrx
              have hfr := from_ref d L av cv k A5 KS.out.2.2.1 (by omega) hcv KS.out.2.2.2.2.2
              rw [← HLf.out] at hfr
              have HFr := Lib.hid hfr
              clear hfr
              clear hb hDl HC ho hrx
              refine hK _ _ KS.out ?_
              clear hK K
              refine Sch.tn_e rfl rfl (fun K hK => ?_)
              go_wp2_with fail
              refine HFr.out.mono ?_
              rintro e A6 ⟨ay, cy, rfl, hry, hb⟩
              have hDl := (Array.getElem?_eq_some_iff.1 KD.out).1
              replace KI := Lib.hid (KI.out.keep hb)
              replace KI2 := Lib.hid (KI2.out.keep hb)
              replace KS := Lib.hid (KS.out.keep hb)
              replace KV := Lib.hid (KV.out.keep hb)
              replace KB := Lib.hid (bel_tr KB.out hb)
              replace KD := Lib.hid ((hb.block D hDl).trans KD.out)
              have HSa := Lib.hid (same_ref Lf ax ay cx cy A6 (HRx.out.keep hb) hry (by omega))
              clear hb hDl HFr hry HRx
              refine hK _ _ KS.out ?_
              clear hK K
              refine Sch.tn_e rfl rfl (fun K hK => ?_)
              go_wp2_with fail
              refine HSa.out.mono ?_
              rintro e A7 ⟨rfl, hb⟩
              have hDl := (Array.getElem?_eq_some_iff.1 KD.out).1
              replace KI := Lib.hid (KI.out.keep hb)
              replace KI2 := Lib.hid (KI2.out.keep hb)
              replace KS := Lib.hid (KS.out.keep hb)
              replace KV := Lib.hid (KV.out.keep hb)
              replace KB := Lib.hid (bel_tr KB.out hb)
              replace KD := Lib.hid ((hb.block D hDl).trans KD.out)
              clear hb hDl HSa
              refine hK _ _ KS.out ?_
              clear hK K
              repeat (first
                | (refine Sch.tn_q rfl rfl rfl (fun K hK => ?_); go_big_quiet_op; (first | refine hK _ ?_ | refine ⟨_, fun _ _ => rfl, hK _ ?_⟩); clear hK K)
                | (refine Sch.tn_chk _ _ _ rfl rfl rfl rfl rfl ?_; simp only [Act.put, List.setIfInBounds_toArray, List.set_cons_zero, List.set_cons_succ])
                | (refine Sch.tn_load _ _ _ _ _ rfl rfl rfl rfl (by first | exact D1.out | exact D2.out | exact D3.out) rfl ?_; simp only [Act.put, List.setIfInBounds_toArray, List.set_cons_zero, List.set_cons_succ]))
              have HKn := Lib.hid (known_any A7)
              refine Sch.tn_e rfl rfl (fun K hK => ?_)
              go_wp2_with fail
              refine HKn.out.mono ?_
              rintro e A8 ⟨rfl, hb⟩
              have hDl := (Array.getElem?_eq_some_iff.1 KD.out).1
              replace KI := Lib.hid (KI.out.keep hb)
              replace KI2 := Lib.hid (KI2.out.keep hb)
              replace KS := Lib.hid (KS.out.keep hb)
              replace KV := Lib.hid (KV.out.keep hb)
              replace KB := Lib.hid (bel_tr KB.out hb)
              replace KD := Lib.hid ((hb.block D hDl).trans KD.out)
              clear hb hDl HKn
              refine hK _ _ KS.out ?_
              clear hK K
              repeat (first
                | (refine Sch.tn_q rfl rfl rfl (fun K hK => ?_); go_big_quiet_op; (first | refine hK _ ?_ | refine ⟨_, fun _ _ => rfl, hK _ ?_⟩); clear hK K)
                | (refine Sch.tn_chk _ _ _ rfl rfl rfl rfl rfl ?_; simp only [Act.put, List.setIfInBounds_toArray, List.set_cons_zero, List.set_cons_succ])
                | (refine Sch.tn_load _ _ _ _ _ rfl rfl rfl rfl (by first | exact D1.out | exact D2.out | exact D3.out) rfl ?_; simp only [Act.put, List.setIfInBounds_toArray, List.set_cons_zero, List.set_cons_succ]))
              have v0 := KV.out.2.cell
              have v1 := KV.out.2.free
              refine Sch.tn_e rfl rfl (fun K hK => ?_)
              go_wp2_with fail
              have hs := gb_setCell A8 (w.heap.size + 1) 0 (.bool true)
              have n1 : Bm + 1 ≠ w.heap.size + 1 := by have := HRg.out; omega
              have n2 : w6.heap.size ≠ w.heap.size + 1 := by have := HRg.out; have := HSz.out.1; omega
              have ZS : Hid (Rz w6.heap.size (Bm + 1) d (.slice a L.length c) L av cv (A8.setCell ⟨w.heap.size + 1, 0, none⟩ (.bool true))) := ⟨KS.out.1.gb hs (by simpa using n2), KS.out.2.1.gb hs (by simpa using n1), row_gb KS.out.2.2.1 KS.out.2.2.2.1 v0 (by simp) hs, KS.out.2.2.2⟩
              have ZV := Lib.hid (KV.out.2.set (.bool true))
              have ZB := Lib.hid (below_gb KB.out hs KB.out.size (by omega))
              have ZD : Hid ((A8.setCell ⟨w.heap.size + 1, 0, none⟩ (.bool true)).heap[D]? = some (.deferred (some []))) := (hs.block D (Array.getElem?_eq_some_iff.1 KD.out).1 (by simpa using hBD.symm)).trans KD.out
              clear v0 v1 hs n1 n2 KS KV KB KD KI KI2
              generalize A8.setCell ⟨w.heap.size + 1, 0, none⟩ (.bool true) = A9 at *
              refine hK _ _ ZS.out ?_
              clear hK K
              refine Sch.tn_n ?_
              go_wp2_with fail
              (try simp only [Exit.inBlock, Exit.then])
              refine HQ'.out _ _ _ ?_
              have hp := grownBy_putObj' A9 D (.deferred none)
              exact retM1 (v := .bool true) rfl ZD.out (ret_bool rfl (ZV.out.gb hp (by simpa using hBD)) rfl) ⟨rfl, below_gb ZB.out hp ZB.out.size hwD⟩
          · have hfz : (0 : Int) < ((f : Nat) : Int) := by omega
            refine Sch.tn_q rfl rfl rfl (fun K hK => ?_)
            go_big_quiet_op
            first | refine hK _ ?_ | refine ⟨_, fun _ _ => rfl, hK _ ?_⟩
            clear hK K
            refine Sch.tn_q rfl rfl rfl (fun K hK => ?_)
            go_big_quiet_op
            first | refine hK _ ?_ | refine ⟨_, fun _ _ => rfl, hK _ ?_⟩
            clear hK K
            refine Sch.tn_q rfl rfl rfl (fun K hK => ?_)
            go_big_quiet_op
            first | refine hK _ ?_ | refine ⟨_, fun _ _ => rfl, hK _ ?_⟩
            clear hK K
            refine Sch.tn_q rfl rfl hT0 (fun K hK => ?_)
            go_big_quiet_op
            first | refine hK _ ?_ | refine ⟨_, fun _ _ => rfl, hK _ ?_⟩
            clear hK K
            refine Sch.tn_q rfl rfl hT0 (fun K hK => ?_)
            go_big_quiet_op
            first | refine hK _ ?_ | refine ⟨_, fun _ _ => rfl, hK _ ?_⟩
            clear hK K
            refine Sch.tn_q rfl rfl rfl (fun K hK => ?_)
            go_big_quiet_op
            first | refine hK _ ?_ | refine ⟨_, fun _ _ => rfl, hK _ ?_⟩
            clear hK K
            refine Sch.tn_q rfl rfl rfl (fun K hK => ?_)
            go_big_quiet_op
            first | refine hK _ ?_ | refine ⟨_, fun _ _ => rfl, hK _ ?_⟩
            clear hK K
            refine Sch.tn_q rfl rfl hT0 (fun K hK => ?_)
            go_big_quiet_op
            first | refine hK _ ?_ | refine ⟨_, fun _ _ => rfl, hK _ ?_⟩
            clear hK K
            refine Sch.tn_q rfl rfl hT0 (fun K hK => ?_)
            go_big_quiet_op
            first | refine hK _ ?_ | refine ⟨_, fun _ _ => rfl, hK _ ?_⟩
            clear hK K
            refine Sch.tn_q rfl rfl hT0 (fun K hK => ?_)
            go_big_quiet_op
            first | refine hK _ ?_ | refine ⟨_, fun _ _ => rfl, hK _ ?_⟩
            clear hK K
            refine Sch.tn_q rfl rfl hT1 (fun K hK => ?_)
            go_big_quiet_op
            first | refine hK _ ?_ | refine ⟨_, fun _ _ => rfl, hK _ ?_⟩
            clear hK K
            refine Sch.tn_q rfl rfl hT1 (fun K hK => ?_)
            go_big_quiet_op
            first | refine hK _ ?_ | refine ⟨_, fun _ _ => rfl, hK _ ?_⟩
            clear hK K
            refine Sch.tn_q rfl rfl hT1 (fun K hK => ?_)
            go_big_quiet_op
            first | refine hK _ ?_ | refine ⟨_, fun _ _ => rfl, hK _ ?_⟩
            clear hK K
            refine Sch.tn_load _ _ _ _ _ rfl rfl hT1 rfl (by exact A2.out) rfl ?_
            simp only [Act.put, List.setIfInBounds_toArray, List.set_cons_zero, List.set_cons_succ]
            refine Sch.tn_q rfl rfl hT1 (fun K hK => ?_)
            go_big_quiet_op
            first | refine hK _ ?_ | refine ⟨_, fun _ _ => rfl, hK _ ?_⟩
            clear hK K
            refine Sch.tn_q rfl rfl hT1 (fun K hK => ?_)
            go_big_quiet_op
            first | refine hK _ ?_ | refine ⟨_, fun _ _ => rfl, hK _ ?_⟩
            clear hK K
            have HTl : Hid ((L.take f).length = f) := by show _ = _; rw [List.length_take]; omega
            have HC := Lib.hid (pairs_it ((f : Nat) : Int) HI.out.1 HI.out.2.1 HI.out.2.2 HJ.out.1 HJ.out.2.1 HJ.out.2.2.1 HJ.out.2.2.2 (by omega))
            refine Sch.tn_e rfl hT1 (fun K hK => ?_)
            go_wp2_with fail
            refine HC.out.mono ?_
            rintro e w7 ⟨v, rfl, ho, hb⟩
            rw [Int.toNat_natCast] at ho
            obtain ⟨aw, cw, hv, -⟩ := ho.row
            rw [HTl.out] at hv
            subst hv
            replace HI := Lib.hid (HI.out.keep hb)
            replace HI2 := Lib.hid (HI2.out.keep hb)
            replace HM := Lib.hid (HM.out.keep hb)
            replace HQ := Lib.hid (HQ.out.keep hb)
            replace HP := Lib.hid (HP.out.keep hb)
            replace HV := Lib.hid (HV.out.keep hb)
            replace HB := Lib.hid (bel_tr HB.out hb)
            have hs := same_ref (L.take f) aw av cw cv w7 ho.r.1 (HQ.out.2.1.take _) (by rw [HTl.out]; omega)
            rw [HTl.out] at hs
            have HSa := Lib.hid hs
            clear hs ho hb HC
            refine hK _ _ HQ.out ?_
            clear hK K
            refine Sch.tn_e rfl hT1 (fun K hK => ?_)
            go_wp2_with fail
            refine HSa.out.mono ?_
            rintro e w8 ⟨rfl, hb⟩
            replace HI := Lib.hid (HI.out.keep hb)
            replace HI2 := Lib.hid (HI2.out.keep hb)
            replace HM := Lib.hid (HM.out.keep hb)
            replace HQ := Lib.hid (HQ.out.keep hb)
            replace HP := Lib.hid (HP.out.keep hb)
            replace HV := Lib.hid (HV.out.keep hb)
            replace HB := Lib.hid (bel_tr HB.out hb)
            clear hb HSa
            refine hK _ _ HQ.out ?_
            clear hK K
            refine Sch.tn_q rfl rfl hT1 (fun K hK => ?_)
            go_big_quiet_op
            first | refine hK _ ?_ | refine ⟨_, fun _ _ => rfl, hK _ ?_⟩
            clear hK K
            refine Sch.tn_q rfl rfl hT0 (fun K hK => ?_)
            go_big_quiet_op
            first | refine hK _ ?_ | refine ⟨_, fun _ _ => rfl, hK _ ?_⟩
            clear hK K
            refine Sch.tn_q rfl rfl rfl (fun K hK => ?_)
            go_big_quiet_op
            first | refine hK _ ?_ | refine ⟨_, fun _ _ => rfl, hK _ ?_⟩
            clear hK K
            refine Sch.tn_n ?_
            go_wp2_with fail
            have HSz : Hid (Bm + 1 < w8.heap.size ∧ g < w8.heap.size) := ⟨HQ.out.1.lt, HM.out.lt⟩
            have hb := bel_box w8 (.cells #[.slice none 0 0] 27)
            have HXg := Lib.hid (bx_new w8 (.slice none 0 0) 27)
            have HO0 := Lib.hid (OP.nil (w8.alloc (.cells #[.slice none 0 0] 27)) (w8.heap.size + 1) E)
            have hsz : (w8.alloc (.cells #[.slice none 0 0] 27)).heap.size = w8.heap.size + 1 := by simp
            have hI0 : Inv w8 g (f : Int) [] (w8.alloc (.cells #[.slice none 0 0] 27)) := ⟨_, gb_below hb (some g), fun _ => hb, HXg.out, HO0.out⟩
            have HIS := Lib.hid (HI.out.keep hb)
            clear hb HO0 HXg
            generalize w8.alloc (.cells #[.slice none 0 0] 27) = wS at *
            refine (wpIn_wide (n := 3)).1 ?_
            refine range_own (by decide) rfl enters_from rfl L (fun A => T.In A) (by have h := HJ.out.1; rw [← h]; exact from_seq _ T z wS b1 b2 rfl HJ.out.2.1 (by have := HJ.out.2; omega) (by have := HJ.out.2; omega) HIS.out.1 HIS.out.2.1) (fun pre A => Inv w8 g (f : Int) pre A) (fun c A => False) (fun pre => by rw [hsz]; exact Inv.abF) (fun c => AbF.const _) (fun pre A h => by obtain ⟨_, h1, -⟩ := h; exact (HI.out.gb HM.out h1).2.2) (fun c A h => h.elim) hI0 ?a14 ?assign4 ?body4 ?done4 ?stop4
            case assign4 =>
              intro l' y A K hK
              gi_wp2
              exact hK
            case stop4 =>
              intro D c A hD h
              exact h.elim
            case body4 =>
              rintro l' pre x A ⟨v, h1, h2, h3, h4⟩ hpre
              obtain ⟨m', hm'⟩ : ∃ m', m' = pre ++ [x] := ⟨_, rfl⟩
              have hml : m'.length = pre.length + 1 := by rw [hm']; simp
              have hmS : m'.length ≤ L.length := by rw [hm']; exact hpre.length_le
              rw [← hm', hsz]
              obtain ⟨a, c, rfl, hrow, hnil, hcap, -⟩ := h4.row
              have c1 := h3.cell
              have H1 := Lib.hid h1
              have H2 := Lib.hid h2
              have H3 := Lib.hid h3
              have H4 := Lib.hid h4
              have HMm := Lib.hid hm'
              have HLl : Hid (pre.length + 1 = m'.length ∧ m'.length ≤ 60) := ⟨hml.symm, by omega⟩
              have hgt : ¬ (L.length : Int) < (m'.length : Int) := by omega
              clear h1 h2 h3 h4 hm' hpre hml hmS hrow hnil hcap hI0 HIS
              obtain hcase | hcase : (m'.length : Int) ≠ (f : Int) ∨ (m'.length : Int) = (f : Int) := by omega
              · have hne : ((m'.length : Int) == (f : Int)) = false := by simpa using hcase
                clear hcase
                gi_wp2_with (
                  gi_at_builtin
                  refine wpListIn_appP rfl _ _ _ rfl Try.underlying27 infoP _ _ rfl (H4.out.below (bel_box _ _)) (some ⟨A.heap.size, 0, none⟩) [x] 1 rfl (lit_one A x _) (fun h => by cases h) (by have := HLl.out; simp only [List.length_cons, List.length_nil]; omega) (by have := H3.out.lt; simp; omega) ?_
                  intro v5 W5 ho5 hg5 hgr
                  rw [← HMm.out] at ho5
                  have hst := Inv.step H1.out H2.out H3.out H4.out _ hg5 ho5
                  obtain ⟨g1, g2, g3, g4, g5, g6⟩ := hst
                  have hrw := ho5.row
                  obtain ⟨a5, c5, rfl, -, -, -, -⟩ := hrw
                  have G1 := Lib.hid g1
                  have G2 := Lib.hid g2
                  have G3 := Lib.hid g3
                  have G4 := Lib.hid g4
                  have G5 := Lib.hid g5
                  have c3 := g6.cell
                  have f3 := g6.free
                  have c5' := g3.cell
                  have q1 := (HQ.out.gb HM.out g1).1.c1
                  have t0 := (HV.out.gb HM.out g1).1.cell
                  clear g1 g2 g3 g4 g5 g6 c1 ho5 hg5 hgr)
                exact ⟨G5.out, _, G1.out, fun h => G2.out (by have := HLl.out; omega), G3.out, G4.out⟩
              · have heq : ((m'.length : Int) == (f : Int)) = true := by simpa using hcase
                gi_wp2_with (
                  gi_at_builtin
                  refine wpListIn_appP rfl _ _ _ rfl Try.underlying27 infoP _ _ rfl (H4.out.below (bel_box _ _)) (some ⟨A.heap.size, 0, none⟩) [x] 1 rfl (lit_one A x _) (fun h => by cases h) (by have := HLl.out; simp only [List.length_cons, List.length_nil]; omega) (by have := H3.out.lt; simp; omega) ?_
                  intro v5 W5 ho5 hg5 hgr
                  rw [← HMm.out] at ho5
                  have hst := Inv.step H1.out H2.out H3.out H4.out _ hg5 ho5
                  obtain ⟨g1, g2, g3, g4, g5, g6⟩ := hst
                  have hrw := ho5.row
                  obtain ⟨a5, c5, rfl, -, -, -, -⟩ := hrw
                  have G1 := Lib.hid g1
                  have G2 := Lib.hid g2
                  have G3 := Lib.hid g3
                  have G4 := Lib.hid g4
                  have G5 := Lib.hid g5
                  have c3 := g6.cell
                  have f3 := g6.free
                  have c5' := g3.cell
                  have q1 := (HQ.out.gb HM.out g1).1.c1
                  have t0 := (HV.out.gb HM.out g1).1.cell
                  have p0 := (HP.out.gbm HM.out g1 (by simp)).cell
                  clear g1 g2 g3 g4 g5 g6 c1 ho5 hg5 hgr)
                generalize W5.setCell ⟨w8.heap.size, 0, none⟩ (.slice a5 m'.length c5) = W6 at *
                have hgl := HSz.out.2
                have HM6 := Lib.hid (HM.out.keep (G2.out (by have := HLl.out; omega)))
                clear G2 c3 f3 c5' q1 t0
                gi_wp2_with fail
                refine ⟨trivial, (CallsIn.inRound l' (callsIn_wide.2 (set_yes g d L x.1 ⟨#[111, 116, 104, 101, 114]⟩ W6 (by omega) HM6.out))).mono ?_⟩
                rintro e W7 ⟨rfl, hm7, hg7⟩
                have J1 := Lib.hid (gb_trans G1.out hg7)
                have J3 := Lib.hid (G3.out.gb hg7 (by simp; omega))
                have J4 := Lib.hid (G4.out.map hg7 (by omega))
                have J5 := Lib.hid (G5.out.trans (Kp.gbLow hg7 (by omega)))
                have HM7 := Lib.hid hm7
                have hl7 := setR_le (d := d) (L := L) x.1 ⟨#[111, 116, 104, 101, 114]⟩
                clear hm7 hg7 p0 G1 G3 G4 G5 HM6
                have p0 := (HP.out.gbm HM.out J1.out (by simp)).cell
                generalize setR d L x.1 ⟨#[111, 116, 104, 101, 114]⟩ = L7 at *
                gi_wp2_with fail
                refine ⟨trivial, (CallsIn.inRound l' (callsIn_wide.2 (set_yes g d L7 _ ⟨#[110, 101, 119]⟩ W7 (by omega) HM7.out))).mono ?_⟩
                rintro e W8 ⟨rfl, hm8, hg8⟩
                have K1 := Lib.hid (gb_trans J1.out hg8)
                have K3 := Lib.hid (J3.out.gb hg8 (by simp; omega))
                have K4 := Lib.hid (J4.out.map hg8 (by omega))
                have K5 := Lib.hid (J5.out.trans (Kp.gbLow hg8 (by omega)))
                have HM8 := Lib.hid hm8
                clear hm8 hg8 p0 J1 J3 J4 J5 HM7 hl7
                obtain ⟨b5, rfl, hb5, x5⟩ := K4.out.first (by have := HLl.out; omega)
                have hm0 : (0 : Int) < (m'.length : Int) := by have := HLl.out; omega
                have HRg8 : Hid (Rg Bm g w8.heap.size b5 (.slice (some ⟨b5, 0, none⟩) m'.length c5) m'[0].1 W8.drew) := ⟨(HP.out.gbm HM.out K1.out (by simp)).cell, K3.out.cell, x5⟩
                have R1 := Lib.hid (fun w' (h : Rg Bm g w8.heap.size b5 (.slice (some ⟨b5, 0, none⟩) m'.length c5) m'[0].1 w') => load_mpc (w := w') h.1)
                have R2 := Lib.hid (fun w' (h : Rg Bm g w8.heap.size b5 (.slice (some ⟨b5, 0, none⟩) m'.length c5) m'[0].1 w') => load_row (w := w') h.2.1)
                have R3 := Lib.hid (fun w' (h : Rg Bm g w8.heap.size b5 (.slice (some ⟨b5, 0, none⟩) m'.length c5) m'[0].1 w') => load_int (w := w') h.2.2)
                have hbd : Below W8.heap.size W8 W8.drew := (Below.refl _ _).drew
                replace HM8 := Lib.hid (HM8.out.keep hbd)
                have K1' := Lib.hid (gb_drew K1.out)
                have K3' := Lib.hid (K3.out.keep hbd)
                have K4' := Lib.hid (K4.out.below hbd)
                have K5' := Lib.hid (K5.out.trans (Kp.bel hbd))
                clear K1 K3 K4 K5 hbd x5
                gi_wp2_with fail
                refine Sch.wpIn_region_tx (Rg Bm g w8.heap.size b5 (.slice (some ⟨b5, 0, none⟩) m'.length c5) m'[0].1) (.val 0 (.val 1 (.val 2 (.val 3 (.val 4 (.one 5 .done)))))) (by kernel_rfl) (by kernel_rfl) (by kernel_rfl) HRg8.out ?_
                repeat (first
                  | (refine Sch.tx_q rfl rfl rfl (fun K hK => ?_); go_big_quiet_op; (first | refine hK _ ?_ | refine ⟨_, fun _ _ => rfl, hK _ ?_⟩); clear hK K)
                  | (refine Sch.tx_chk _ _ _ rfl rfl rfl rfl rfl ?_; simp only [Act.put, List.setIfInBounds_toArray, List.set_cons_zero, List.set_cons_succ])
                  | (refine Sch.tx_load _ _ _ _ _ rfl rfl rfl rfl (by first | exact R1.out | exact R2.out | exact R3.out) rfl ?_; simp only [Act.put, List.setIfInBounds_toArray, List.set_cons_zero, List.set_cons_succ]))
                clear R1 R2 R3
                generalize W8.drew = W9 at *
                refine Sch.tx_e rfl rfl (fun K hK => ?_)
                gi_wp2_with fail
                refine ⟨trivial, (CallsIn.inRound l' (callsIn_wide.2 (delete_yes g d _ _ W9 HM8.out))).mono ?_⟩
                rintro e W10 ⟨rfl, hm9, hg9⟩
                have M1 := Lib.hid (gb_trans K1'.out hg9)
                have M3 := Lib.hid (K3'.out.gb hg9 (by simp; omega))
                have M4 := Lib.hid (K4'.out.map hg9 (by omega))
                have M5 := Lib.hid (K5'.out.trans (Kp.gbLow hg9 (by omega)))
                have N1 : Hid (Rg Bm g w8.heap.size b5 (.slice (some ⟨b5, 0, none⟩) m'.length c5) m'[0].1 W10) := ⟨(HP.out.gbm HM.out M1.out (by simp)).cell, M3.out.cell, cell_gb HRg8.out.2.2 hg9 (by simp; omega)⟩
                clear hm9 hg9 K1' K3' K4' K5' HM8 HRg8
                refine hK _ _ N1.out ?_
                clear hK K
                refine Sch.tx_n ?_
                (try simp only [Exit.inBlock, Exit.then])
                exact ⟨M5.out, _, M1.out, fun h => absurd h (by have := of_decide_eq_true heq; omega), M3.out, M4.out⟩
            case done4 =>
              rintro D A hD ⟨v, h1, -, h3, h4⟩ hK
              obtain ⟨a, c, rfl, hrow, hnil, hcap, -⟩ := h4.row
              have hbd : Below A.heap.size A A.drew := (Below.refl _ _).drew
              have KI := Lib.hid ((HI.out.gb HM.out h1).keep hbd)
              have KI2 := Lib.hid ((HI2.out.gb HM.out h1).keep hbd)
              have KS : Hid (Rz w8.heap.size (Bm + 1) d (.slice a L.length c) L av cv A.drew) := ⟨h3.keep hbd, (HQ.out.gb HM.out h1).keep hbd⟩
              have KV := Lib.hid ((HV.out.gb HM.out h1).keep hbd)
              have KB := Lib.hid ((below_gb HB.out h1 HB.out.size HG.out).drew)
              have KD : Hid (A.drew.heap[D]? = some (.deferred (some []))) := hK
              have HSa := Lib.hid (same_ref L a av c cv A.drew (hrow.keep hbd) ((HQ.out.gb HM.out h1).keep hbd).2.1 (by omega))
              have D1 := Lib.hid (fun w' (h : Rz w8.heap.size (Bm + 1) d (.slice a L.length c) L av cv w') => load_row (w := w') h.1.cell)
              have D2 := Lib.hid (fun w' (h : Rz w8.heap.size (Bm + 1) d (.slice a L.length c) L av cv w') => load_row (w := w') h.2.1.c1)
              have D3 := Lib.hid (fun w' (h : Rz w8.heap.size (Bm + 1) d (.slice a L.length c) L av cv w') => load_mb (w := w') h.2.1)
              have hBD : w.heap.size + 1 ≠ D := by have := HSz.out.1; have := HRg.out; omega
              obtain ⟨Lf, hLf⟩ : ∃ Lf, Lf = L.drop (rank d L k) := ⟨_, rfl⟩
              have HJ3 : Hid (T2.list.drop z2.toNat = Lf ∧ T2.len ≤ 1000000 ∧ 0 ≤ z2 ∧ z2 ≤ 1000000) := by rw [hLf]; exact HJ2.out
              have hLfl : Lf.length ≤ 100 := by rw [hLf, List.length_drop]; omega
              have HLf := Lib.hid hLf
              have hwD : w.heap.size ≤ D := by have := HB.out.size; omega
              clear hLf h1 h3 h4 hK hbd hrow hnil hcap hI0 HIS hf0 hfz hfi hfc hfl
              go_wp2_with fail
              refine Sch.wp_region_tn (Rz w8.heap.size (Bm + 1) d (.slice a L.length c) L av cv) (.val 0 (.val 1 (.val 2 (.one 3 (.val 4 (.val 5 (.val 7 (.val 8 (.one 6 (.one 9 (.val 10 (.val 11 (.val 12 (.val 14 (.val 15 (.one 13 (.one 16 (.one 17 (.val 18 (.val 19 (.one 20 (.val 21 (.one 22 .done))))))))))))))))))))))) (by kernel_rfl) (by kernel_rfl) KS.out ?_
              repeat (first
                | (refine Sch.tn_q rfl rfl rfl (fun K hK => ?_); go_big_quiet_op; (first | refine hK _ ?_ | refine ⟨_, fun _ _ => rfl, hK _ ?_⟩); clear hK K)
                | (refine Sch.tn_chk _ _ _ rfl rfl rfl rfl rfl ?_; simp only [Act.put, List.setIfInBounds_toArray, List.set_cons_zero, List.set_cons_succ])
                | (refine Sch.tn_load _ _ _ _ _ rfl rfl rfl rfl (by first | exact D1.out | exact D2.out | exact D3.out) rfl ?_; simp only [Act.put, List.setIfInBounds_toArray, List.set_cons_zero, List.set_cons_succ]))
              generalize A.drew = A1 at *
              refine Sch.tn_e rfl rfl (fun K hK => ?_)
              go_wp2_with fail
              refine HSa.out.mono ?_
              rintro e A2 ⟨rfl, hb⟩
              have hDl := (Array.getElem?_eq_some_iff.1 KD.out).1
              replace KI := Lib.hid (KI.out.keep hb)
              replace KI2 := Lib.hid (KI2.out.keep hb)
              replace KS := Lib.hid (KS.out.keep hb)
              replace KV := Lib.hid (KV.out.keep hb)
              replace KB := Lib.hid (bel_tr KB.out hb)
              replace KD := Lib.hid ((hb.block D hDl).trans KD.out)
              clear hb hDl HSa
              refine hK _ _ KS.out ?_
              clear hK K
              repeat (first
                | (refine Sch.tn_q rfl rfl rfl (fun K hK => ?_); go_big_quiet_op; (first | refine hK _ ?_ | refine ⟨_, fun _ _ => rfl, hK _ ?_⟩); clear hK K)
                | (refine Sch.tn_chk _ _ _ rfl rfl rfl rfl rfl ?_; simp only [Act.put, List.setIfInBounds_toArray, List.set_cons_zero, List.set_cons_succ])
                | (refine Sch.tn_load _ _ _ _ _ rfl rfl rfl rfl (by first | exact D1.out | exact D2.out | exact D3.out) rfl ?_; simp only [Act.put, List.setIfInBounds_toArray, List.set_cons_zero, List.set_cons_succ]))
              have HC := Lib.hid (pairs_it 100 KI.out.1 KI.out.2.1 KI.out.2.2 HJ.out.1 HJ.out.2.1 HJ.out.2.2.1 HJ.out.2.2.2 (by omega))
              refine Sch.tn_e rfl rfl (fun K hK => ?_)
              go_wp2_with fail
              refine HC.out.mono ?_
              rintro e A3 ⟨v, rfl, ho, hb⟩
              rw [show L.take ((100 : Int).toNat) = L from List.take_of_length_le (by show L.length ≤ 100; omega)] at ho
              obtain ⟨aw, cw, rfl, hrw, -⟩ := ho.row
              have hDl := (Array.getElem?_eq_some_iff.1 KD.out).1
              replace KI := Lib.hid (KI.out.keep hb)
              replace KI2 := Lib.hid (KI2.out.keep hb)
              replace KS := Lib.hid (KS.out.keep hb)
              replace KV := Lib.hid (KV.out.keep hb)
              replace KB := Lib.hid (bel_tr KB.out hb)
              replace KD := Lib.hid ((hb.block D hDl).trans KD.out)
              have HSa := Lib.hid (same_ref L aw av cw cv A3 hrw KS.out.2.2.1 (by omega))
              clear hb hDl HC ho hrw
              refine hK _ _ KS.out ?_
              clear hK K
              refine Sch.tn_e rfl rfl (fun K hK => ?_)
              go_wp2_with fail
              refine HSa.out.mono ?_
              rintro e A4 ⟨rfl, hb⟩
              have hDl := (Array.getElem?_eq_some_iff.1 KD.out).1
              replace KI := Lib.hid (KI.out.keep hb)
              replace KI2 := Lib.hid (KI2.out.keep hb)
              replace KS := Lib.hid (KS.out.keep hb)
              replace KV := Lib.hid (KV.out.keep hb)
              replace KB := Lib.hid (bel_tr KB.out hb)
              replace KD := Lib.hid ((hb.block D hDl).trans KD.out)
              clear hb hDl HSa
              refine hK _ _ KS.out ?_
              clear hK K
              repeat (first
                | (refine Sch.tn_q rfl rfl rfl (fun K hK => ?_); go_big_quiet_op; (first | refine hK _ ?_ | refine ⟨_, fun _ _ => rfl, hK _ ?_⟩); clear hK K)
                | (refine Sch.tn_chk _ _ _ rfl rfl rfl rfl rfl ?_; simp only [Act.put, List.setIfInBounds_toArray, List.set_cons_zero, List.set_cons_succ])
                | (refine Sch.tn_load _ _ _ _ _ rfl rfl rfl rfl (by first | exact D1.out | exact D2.out | exact D3.out) rfl ?_; simp only [Act.put, List.setIfInBounds_toArray, List.set_cons_zero, List.set_cons_succ]))
              have HC := Lib.hid (pairs_it 100 KI2.out.1 KI2.out.2.1 KI2.out.2.2 HJ3.out.1 HJ3.out.2.1 HJ3.out.2.2.1 HJ3.out.2.2.2 (by omega))
              refine Sch.tn_e rfl rfl (fun K hK => ?_)
              go_wp2_with fail
              refine HC.out.mono ?_
              rintro e A5 ⟨v, rfl, ho, hb⟩
              rw [show Lf.take ((100 : Int).toNat) = Lf from List.take_of_length_le hLfl] at ho
              obtain ⟨ax, cx, rfl, hrx, -⟩ := ho.row
              have hDl := (Array.getElem?_eq_some_iff.1 KD.out).1
              replace KI := Lib.hid (KI.out.keep hb)
              replace KI2 := Lib.hid (KI2.out.keep hb)
              replace KS := Lib.hid (KS.out.keep hb)
              replace KV := Lib.hid (KV.out.keep hb)
              replace KB := Lib.hid (bel_tr KB.out hb)
              replace KD := Lib.hid ((hb.block D hDl).trans KD.out)
              have HRx := Lib.hid hrx
              have hfr := from_ref d L av cv k A5 KS.out.2.2.1 (by omega) hcv KS.out.2.2.2.2.2
              rw [← HLf.out] at hfr
              have HFr := Lib.hid hfr
              clear hfr
              clear hb hDl HC ho hrx
              refine hK _ _ KS.out ?_
              clear hK K
              refine Sch.tn_e rfl rfl (fun K hK => ?_)
              go_wp2_with fail
              refine HFr.out.mono ?_
              rintro e A6 ⟨ay, cy, rfl, hry, hb⟩
              have hDl := (Array.getElem?_eq_some_iff.1 KD.out).1
              replace KI := Lib.hid (KI.out.keep hb)
              replace KI2 := Lib.hid (KI2.out.keep hb)
              replace KS := Lib.hid (KS.out.keep hb)
              replace KV := Lib.hid (KV.out.keep hb)
              replace KB := Lib.hid (bel_tr KB.out hb)
              replace KD := Lib.hid ((hb.block D hDl).trans KD.out)
              have HSa := Lib.hid (same_ref Lf ax ay cx cy A6 (HRx.out.keep hb) hry (by omega))
              clear hb hDl HFr hry HRx
              refine hK _ _ KS.out ?_
              clear hK K
              refine Sch.tn_e rfl rfl (fun K hK => ?_)
              go_wp2_with fail
              refine HSa.out.mono ?_
              rintro e A7 ⟨rfl, hb⟩
              have hDl := (Array.getElem?_eq_some_iff.1 KD.out).1
              replace KI := Lib.hid (KI.out.keep hb)
              replace KI2 := Lib.hid (KI2.out.keep hb)
              replace KS := Lib.hid (KS.out.keep hb)
              replace KV := Lib.hid (KV.out.keep hb)
              replace KB := Lib.hid (bel_tr KB.out hb)
              replace KD := Lib.hid ((hb.block D hDl).trans KD.out)
              clear hb hDl HSa
              refine hK _ _ KS.out ?_
              clear hK K
              repeat (first
                | (refine Sch.tn_q rfl rfl rfl (fun K hK => ?_); go_big_quiet_op; (first | refine hK _ ?_ | refine ⟨_, fun _ _ => rfl, hK _ ?_⟩); clear hK K)
                | (refine Sch.tn_chk _ _ _ rfl rfl rfl rfl rfl ?_; simp only [Act.put, List.setIfInBounds_toArray, List.set_cons_zero, List.set_cons_succ])
                | (refine Sch.tn_load _ _ _ _ _ rfl rfl rfl rfl (by first | exact D1.out | exact D2.out | exact D3.out) rfl ?_; simp only [Act.put, List.setIfInBounds_toArray, List.set_cons_zero, List.set_cons_succ]))
              have HKn := Lib.hid (known_any A7)
              refine Sch.tn_e rfl rfl (fun K hK => ?_)
              go_wp2_with fail
              refine HKn.out.mono ?_
              rintro e A8 ⟨rfl, hb⟩
              have hDl := (Array.getElem?_eq_some_iff.1 KD.out).1
              replace KI := Lib.hid (KI.out.keep hb)
              replace KI2 := Lib.hid (KI2.out.keep hb)
              replace KS := Lib.hid (KS.out.keep hb)
              replace KV := Lib.hid (KV.out.keep hb)
              replace KB := Lib.hid (bel_tr KB.out hb)
              replace KD := Lib.hid ((hb.block D hDl).trans KD.out)
              clear hb hDl HKn
              refine hK _ _ KS.out ?_
              clear hK K
              repeat (first
                | (refine Sch.tn_q rfl rfl rfl (fun K hK => ?_); go_big_quiet_op; (first | refine hK _ ?_ | refine ⟨_, fun _ _ => rfl, hK _ ?_⟩); clear hK K)
                | (refine Sch.tn_chk _ _ _ rfl rfl rfl rfl rfl ?_; simp only [Act.put, List.setIfInBounds_toArray, List.set_cons_zero, List.set_cons_succ])
                | (refine Sch.tn_load _ _ _ _ _ rfl rfl rfl rfl (by first | exact D1.out | exact D2.out | exact D3.out) rfl ?_; simp only [Act.put, List.setIfInBounds_toArray, List.set_cons_zero, List.set_cons_succ]))
              have v0 := KV.out.2.cell
              have v1 := KV.out.2.free
              refine Sch.tn_e rfl rfl (fun K hK => ?_)
              go_wp2_with fail
              have hs := gb_setCell A8 (w.heap.size + 1) 0 (.bool true)
              have n1 : Bm + 1 ≠ w.heap.size + 1 := by have := HRg.out; omega
              have n2 : w8.heap.size ≠ w.heap.size + 1 := by have := HRg.out; have := HSz.out.1; omega
              have ZS : Hid (Rz w8.heap.size (Bm + 1) d (.slice a L.length c) L av cv (A8.setCell ⟨w.heap.size + 1, 0, none⟩ (.bool true))) := ⟨KS.out.1.gb hs (by simpa using n2), KS.out.2.1.gb hs (by simpa using n1), row_gb KS.out.2.2.1 KS.out.2.2.2.1 v0 (by simp) hs, KS.out.2.2.2⟩
              have ZV := Lib.hid (KV.out.2.set (.bool true))
              have ZB := Lib.hid (below_gb KB.out hs KB.out.size (by omega))
              have ZD : Hid ((A8.setCell ⟨w.heap.size + 1, 0, none⟩ (.bool true)).heap[D]? = some (.deferred (some []))) := (hs.block D (Array.getElem?_eq_some_iff.1 KD.out).1 (by simpa using hBD.symm)).trans KD.out
              clear v0 v1 hs n1 n2 KS KV KB KD KI KI2
              generalize A8.setCell ⟨w.heap.size + 1, 0, none⟩ (.bool true) = A9 at *
              refine hK _ _ ZS.out ?_
              clear hK K
              refine Sch.tn_n ?_
              go_wp2_with fail
              (try simp only [Exit.inBlock, Exit.then])
              refine HQ'.out _ _ _ ?_
              have hp := grownBy_putObj' A9 D (.deferred none)
              exact retM1 (v := .bool true) rfl ZD.out (ret_bool rfl (ZV.out.gb hp (by simpa using hBD)) rfl) ⟨rfl, below_gb ZB.out hp ZB.out.size hwD⟩
end Go.Proofs.Ytmmcnpcijeahcaa.J
