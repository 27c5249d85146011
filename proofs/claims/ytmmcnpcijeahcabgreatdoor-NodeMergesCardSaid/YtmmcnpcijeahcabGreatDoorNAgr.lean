/-
  agree and Merge of the program.
-/
import Derived.Test.YtmmcnpcijeahcabGreatDoorNCmp
namespace Go.Proofs.YtmmcnpcijeahcabGreatDoor.Nd
set_option linter.unusedVariables false
open Go.RowKit V Go.Sort D
attribute [local irreducible] Sch.heldN Sch.stepV Sch.stepE

theorem agree_kill (a b : Nt) : agreeN a b = (decide (killN a = killN b) && (decide (a.2.2.2 = b.2.2.2) || deadN a || deadN b)) := by
  rw [Bool.eq_iff_iff, agree_iff]
  unfold deadN killN
  simp only [Bool.and_eq_true, Bool.or_eq_true, decide_eq_true_eq, Prod.mk.injEq, and_true]
  constructor
  · rintro ⟨h1, h2, h3, h4 | h4 | h4⟩
    · exact ⟨⟨h1, h2, h3⟩, .inl (.inl h4)⟩
    · exact ⟨⟨h1, h2, h3⟩, .inl (.inr h4)⟩
    · exact ⟨⟨h1, h2, h3⟩, .inr h4⟩
  · rintro ⟨⟨h1, h2, h3⟩, (h4 | h4) | h4⟩
    · exact ⟨h1, h2, h3, .inl h4⟩
    · exact ⟨h1, h2, h3, .inr (.inl h4)⟩
    · exact ⟨h1, h2, h3, .inr (.inr h4)⟩

set_option maxRecDepth 100000 in
set_option maxHeartbeats 4000000 in
theorem agree_any (a b : Nt) (w : World) : Calls Tryz.prog 48 #[nv a, nv b] w fun e w' => e = .returned (.bool (agreeN a b)) ∧ Below w.heap.size w w' := by
  have HE := Lib.hid (agree_kill a b)
  have HKa := Lib.hid (fun w => kill_any a w)
  have HKb := Lib.hid (fun w => kill_any b w)
  have HDa := Lib.hid (fun w => dead_any a w)
  have HDb := Lib.hid (fun w => dead_any b w)
  have hkk := fun w => eql_node (killN a) (killN b) w
  have HK := Lib.hid (N2.new a b w)
  have HB := Lib.hid (bel_two w a b)
  have hT0 : (some false == some false) = true := rfl
  have hT1 : (some true == some true) = true := rfl
  have hF0 : (some true == some false) = false := rfl
  have hF1 : (some false == some true) = false := rfl
  have hN0 : ((none : Option Bool) == some false) = false := rfl
  have hN1 : ((none : Option Bool) == some true) = false := rfl
  generalize agreeN a b = R at *
  generalize deadN a = da at *
  generalize deadN b = db at *
  generalize killN a = ka at *
  generalize killN b = kb at *
  generalize decide (ka = kb) = kk at *
  go_enter Tryz.func48, Tryz.ntmps48
  go_wp2_with fail
  generalize (w.alloc (.cells (nc a) 25)).alloc (.cells (nc b) 25) = w1 at *
  replace HK := Lib.hid (HK.out.keep ((Below.refl w1.heap.size w1).drew))
  replace HB := Lib.hid HB.out.drew
  refine Sch.wp_region_tn (N2 w.heap.size (w.heap.size + 1) a b) (.val 0 (.val 2 (.one 1 (.one 3 (.val 4 (.val 5 (.val 6 (.val 7 (.val 8 (.val 9 (.val 10 (.val 11 (.val 12 (.one 13 (.val 14 (.val 15 (.val 16 (.one 17 (.val 18 (.val 19 (.val 20 .done))))))))))))))))))))) (by kernel_rfl) (by kernel_rfl) HK.out ?_
  generalize w1.drew = w2 at *
  refine Sch.tn_load _ _ _ _ _ rfl rfl rfl rfl (by exact N2.na) rfl ?_
  simp only [Act.put, List.setIfInBounds_toArray, List.set_cons_zero, List.set_cons_succ]
  refine Sch.tn_load _ _ _ _ _ rfl rfl rfl rfl (by exact N2.nb) rfl ?_
  simp only [Act.put, List.setIfInBounds_toArray, List.set_cons_zero, List.set_cons_succ]
  refine Sch.tn_e rfl rfl (fun K hK => ?_)
  go_wp2_with fail
  refine (HKa.out _).mono ?_
  rintro e w3 ⟨rfl, hl⟩
  have hb := hl.bel
  replace HK := Lib.hid (HK.out.keep hb)
  replace HB := bel_tr HB hb
  clear hl hb
  refine hK _ _ HK.out ?_
  clear hK K
  refine Sch.tn_e rfl rfl (fun K hK => ?_)
  go_wp2_with fail
  refine (HKb.out _).mono ?_
  rintro e w4 ⟨rfl, hl⟩
  have hb := hl.bel
  replace HK := Lib.hid (HK.out.keep hb)
  replace HB := bel_tr HB hb
  clear hl hb
  refine hK _ _ HK.out ?_
  clear hK K
  rcases kk with _ | _
  · refine Sch.tn_q rfl rfl rfl (fun K hK => ?_)
    go_big_quiet_op
    first | refine hK _ ?_ | refine ⟨_, fun _ _ => rfl, hK _ ?_⟩
    clear hK K
    refine Sch.tn_q rfl rfl rfl (fun K hK => ?_)
    go_big_quiet_op
    first | refine hK _ ?_ | refine ⟨_, fun _ _ => rfl, hK _ ?_⟩
    clear hK K
    refine Sch.tn_s _ rfl hF1 rfl ?_
    simp only [Act.put, List.setIfInBounds_toArray, List.set_cons_zero, List.set_cons_succ]
    refine Sch.tn_s _ rfl hF1 rfl ?_
    simp only [Act.put, List.setIfInBounds_toArray, List.set_cons_zero, List.set_cons_succ]
    refine Sch.tn_s _ rfl hF1 rfl ?_
    simp only [Act.put, List.setIfInBounds_toArray, List.set_cons_zero, List.set_cons_succ]
    refine Sch.tn_s _ rfl hF1 rfl ?_
    simp only [Act.put, List.setIfInBounds_toArray, List.set_cons_zero, List.set_cons_succ]
    refine Sch.tn_s _ rfl hF1 rfl ?_
    simp only [Act.put, List.setIfInBounds_toArray, List.set_cons_zero, List.set_cons_succ]
    refine Sch.tn_s _ rfl hF1 rfl ?_
    simp only [Act.put, List.setIfInBounds_toArray, List.set_cons_zero, List.set_cons_succ]
    refine Sch.tn_s _ rfl hN0 rfl ?_
    simp only [Act.put, List.setIfInBounds_toArray, List.set_cons_zero, List.set_cons_succ]
    refine Sch.tn_se _ rfl hN0 rfl ?_
    simp only [Act.put, List.setIfInBounds_toArray, List.set_cons_zero, List.set_cons_succ]
    refine Sch.tn_s _ rfl hF1 rfl ?_
    simp only [Act.put, List.setIfInBounds_toArray, List.set_cons_zero, List.set_cons_succ]
    refine Sch.tn_s _ rfl hF1 rfl ?_
    simp only [Act.put, List.setIfInBounds_toArray, List.set_cons_zero, List.set_cons_succ]
    refine Sch.tn_s _ rfl hN0 rfl ?_
    simp only [Act.put, List.setIfInBounds_toArray, List.set_cons_zero, List.set_cons_succ]
    refine Sch.tn_se _ rfl hN0 rfl ?_
    simp only [Act.put, List.setIfInBounds_toArray, List.set_cons_zero, List.set_cons_succ]
    refine Sch.tn_s _ rfl hF1 rfl ?_
    simp only [Act.put, List.setIfInBounds_toArray, List.set_cons_zero, List.set_cons_succ]
    refine Sch.tn_q rfl rfl rfl (fun K hK => ?_)
    go_big_quiet_op
    first | refine hK _ ?_ | refine ⟨_, fun _ _ => rfl, hK _ ?_⟩
    clear hK K
    refine Sch.tn_q rfl rfl rfl (fun K hK => ?_)
    go_big_quiet_op
    first | refine hK _ ?_ | refine ⟨_, fun _ _ => rfl, hK _ ?_⟩
    clear hK K
    refine Sch.tn_n ?_
    go_wp2_with fail
    go_ret
    exact ⟨by rw [HE.out]; rfl, HB.out⟩
  · refine Sch.tn_q rfl rfl rfl (fun K hK => ?_)
    go_big_quiet_op
    first | refine hK _ ?_ | refine ⟨_, fun _ _ => rfl, hK _ ?_⟩
    clear hK K
    refine Sch.tn_q rfl rfl rfl (fun K hK => ?_)
    go_big_quiet_op
    first | refine hK _ ?_ | refine ⟨_, fun _ _ => rfl, hK _ ?_⟩
    clear hK K
    refine Sch.tn_q rfl rfl hT1 (fun K hK => ?_)
    go_big_quiet_op
    first | refine hK _ ?_ | refine ⟨_, fun _ _ => rfl, hK _ ?_⟩
    clear hK K
    refine Sch.tn_load _ _ _ _ _ rfl rfl hT1 rfl (by exact N2.ar) rfl ?_
    simp only [Act.put, List.setIfInBounds_toArray, List.set_cons_zero, List.set_cons_succ]
    refine Sch.tn_q rfl rfl hT1 (fun K hK => ?_)
    go_big_quiet_op
    first | refine hK _ ?_ | refine ⟨_, fun _ _ => rfl, hK _ ?_⟩
    clear hK K
    refine Sch.tn_load _ _ _ _ _ rfl rfl hT1 rfl (by exact N2.br) rfl ?_
    simp only [Act.put, List.setIfInBounds_toArray, List.set_cons_zero, List.set_cons_succ]
    by_cases hr : a.2.2.2 = b.2.2.2
    · have HR : Hid (decide (a.2.2.2 = b.2.2.2) = true) := decide_eq_true hr
      have hr2 : (a.2.2.2 == b.2.2.2) = true := by rw [beq_iff_eq]; exact hr
      clear hr
      refine Sch.tn_q rfl rfl hT1 (fun K hK => ?_)
      go_big_quiet_op
      first | refine hK _ ?_ | refine ⟨_, fun _ _ => rfl, hK _ ?_⟩
      clear hK K
      refine Sch.tn_q rfl rfl hT1 (fun K hK => ?_)
      go_big_quiet_op
      first | refine hK _ ?_ | refine ⟨_, fun _ _ => rfl, hK _ ?_⟩
      clear hK K
      refine Sch.tn_s _ rfl hF0 rfl ?_
      simp only [Act.put, List.setIfInBounds_toArray, List.set_cons_zero, List.set_cons_succ]
      refine Sch.tn_se _ rfl hF0 rfl ?_
      simp only [Act.put, List.setIfInBounds_toArray, List.set_cons_zero, List.set_cons_succ]
      refine Sch.tn_q rfl rfl hT1 (fun K hK => ?_)
      go_big_quiet_op
      first | refine hK _ ?_ | refine ⟨_, fun _ _ => rfl, hK _ ?_⟩
      clear hK K
      refine Sch.tn_q rfl rfl hT1 (fun K hK => ?_)
      go_big_quiet_op
      first | refine hK _ ?_ | refine ⟨_, fun _ _ => rfl, hK _ ?_⟩
      clear hK K
      refine Sch.tn_s _ rfl hF0 rfl ?_
      simp only [Act.put, List.setIfInBounds_toArray, List.set_cons_zero, List.set_cons_succ]
      refine Sch.tn_se _ rfl hF0 rfl ?_
      simp only [Act.put, List.setIfInBounds_toArray, List.set_cons_zero, List.set_cons_succ]
      refine Sch.tn_q rfl rfl hT1 (fun K hK => ?_)
      go_big_quiet_op
      first | refine hK _ ?_ | refine ⟨_, fun _ _ => rfl, hK _ ?_⟩
      clear hK K
      refine Sch.tn_q rfl rfl rfl (fun K hK => ?_)
      go_big_quiet_op
      first | refine hK _ ?_ | refine ⟨_, fun _ _ => rfl, hK _ ?_⟩
      clear hK K
      refine Sch.tn_q rfl rfl rfl (fun K hK => ?_)
      go_big_quiet_op
      first | refine hK _ ?_ | refine ⟨_, fun _ _ => rfl, hK _ ?_⟩
      clear hK K
      refine Sch.tn_n ?_
      go_wp2_with fail
      go_ret
      exact ⟨by rw [HE.out, HR.out]; rfl, HB.out⟩
    · have HR : Hid (decide (a.2.2.2 = b.2.2.2) = false) := decide_eq_false hr
      have hr2 : (a.2.2.2 == b.2.2.2) = false := by rw [beq_eq_false_iff_ne]; exact hr
      clear hr
      refine Sch.tn_q rfl rfl hT1 (fun K hK => ?_)
      go_big_quiet_op
      first | refine hK _ ?_ | refine ⟨_, fun _ _ => rfl, hK _ ?_⟩
      clear hK K
      refine Sch.tn_q rfl rfl hT1 (fun K hK => ?_)
      go_big_quiet_op
      first | refine hK _ ?_ | refine ⟨_, fun _ _ => rfl, hK _ ?_⟩
      clear hK K
      refine Sch.tn_load _ _ _ _ _ rfl rfl hT0 rfl (by exact N2.na) rfl ?_
      simp only [Act.put, List.setIfInBounds_toArray, List.set_cons_zero, List.set_cons_succ]
      refine Sch.tn_e rfl hT0 (fun K hK => ?_)
      go_wp2_with fail
      refine (HDa.out _).mono ?_
      rintro e w5 ⟨rfl, hl⟩
      have hb := hl.bel
      replace HK := Lib.hid (HK.out.keep hb)
      replace HB := bel_tr HB hb
      clear hl hb
      refine hK _ _ HK.out ?_
      clear hK K
      rcases da with _ | _
      · refine Sch.tn_q rfl rfl hT1 (fun K hK => ?_)
        go_big_quiet_op
        first | refine hK _ ?_ | refine ⟨_, fun _ _ => rfl, hK _ ?_⟩
        clear hK K
        refine Sch.tn_q rfl rfl hT1 (fun K hK => ?_)
        go_big_quiet_op
        first | refine hK _ ?_ | refine ⟨_, fun _ _ => rfl, hK _ ?_⟩
        clear hK K
        refine Sch.tn_load _ _ _ _ _ rfl rfl hT0 rfl (by exact N2.nb) rfl ?_
        simp only [Act.put, List.setIfInBounds_toArray, List.set_cons_zero, List.set_cons_succ]
        refine Sch.tn_e rfl hT0 (fun K hK => ?_)
        go_wp2_with fail
        refine (HDb.out _).mono ?_
        rintro e w6 ⟨rfl, hl⟩
        have hb := hl.bel
        replace HK := Lib.hid (HK.out.keep hb)
        replace HB := bel_tr HB hb
        clear hl hb
        refine hK _ _ HK.out ?_
        clear hK K
        refine Sch.tn_q rfl rfl hT1 (fun K hK => ?_)
        go_big_quiet_op
        first | refine hK _ ?_ | refine ⟨_, fun _ _ => rfl, hK _ ?_⟩
        clear hK K
        refine Sch.tn_q rfl rfl rfl (fun K hK => ?_)
        go_big_quiet_op
        first | refine hK _ ?_ | refine ⟨_, fun _ _ => rfl, hK _ ?_⟩
        clear hK K
        refine Sch.tn_q rfl rfl rfl (fun K hK => ?_)
        go_big_quiet_op
        first | refine hK _ ?_ | refine ⟨_, fun _ _ => rfl, hK _ ?_⟩
        clear hK K
        refine Sch.tn_n ?_
        go_wp2_with fail
        go_ret
        exact ⟨by rw [HE.out, HR.out]; rfl, HB.out⟩
      · refine Sch.tn_q rfl rfl hT1 (fun K hK => ?_)
        go_big_quiet_op
        first | refine hK _ ?_ | refine ⟨_, fun _ _ => rfl, hK _ ?_⟩
        clear hK K
        refine Sch.tn_q rfl rfl hT1 (fun K hK => ?_)
        go_big_quiet_op
        first | refine hK _ ?_ | refine ⟨_, fun _ _ => rfl, hK _ ?_⟩
        clear hK K
        refine Sch.tn_s _ rfl hF0 rfl ?_
        simp only [Act.put, List.setIfInBounds_toArray, List.set_cons_zero, List.set_cons_succ]
        refine Sch.tn_se _ rfl hF0 rfl ?_
        simp only [Act.put, List.setIfInBounds_toArray, List.set_cons_zero, List.set_cons_succ]
        refine Sch.tn_q rfl rfl hT1 (fun K hK => ?_)
        go_big_quiet_op
        first | refine hK _ ?_ | refine ⟨_, fun _ _ => rfl, hK _ ?_⟩
        clear hK K
        refine Sch.tn_q rfl rfl rfl (fun K hK => ?_)
        go_big_quiet_op
        first | refine hK _ ?_ | refine ⟨_, fun _ _ => rfl, hK _ ?_⟩
        clear hK K
        refine Sch.tn_q rfl rfl rfl (fun K hK => ?_)
        go_big_quiet_op
        first | refine hK _ ?_ | refine ⟨_, fun _ _ => rfl, hK _ ?_⟩
        clear hK K
        refine Sch.tn_n ?_
        go_wp2_with fail
        go_ret
        exact ⟨by rw [HE.out, HR.out]; rfl, HB.out⟩
end Go.Proofs.YtmmcnpcijeahcabGreatDoor.Nd
