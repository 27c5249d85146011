/-
  NodeOrders.
-/
import Derived.Test.YtmmcnpcijeahcabGreatDoorNKnown
import Derived.Test.YtmmcnpcijeahcabGreatDoorNRef
namespace Go.Proofs.YtmmcnpcijeahcabGreatDoor.Nd
set_option linter.unusedVariables false
open Go.RowKit V Go.Sort D
attribute [local irreducible] Sch.heldN Sch.stepV Sch.stepE

set_option maxRecDepth 100000 in
set_option maxHeartbeats 8000000 in
theorem orders_law (a b : Nt) (w : World) (hL : Ln w) : Calls Tryz.prog 4 #[nv a, nv b] w fun e w' => e = .returned (.bool true) ∧ Below w.heap.size w w' := by
  have HL := Lib.hid hL
  have H1 := Lib.hid (fun w => before_any a b w)
  have H2 := Lib.hid (fun w => before_ref9 a b w)
  have H3 := Lib.hid (fun w => before_any b a w)
  have H4 := Lib.hid (fun w => before_ref9 b a w)
  have H5 := Lib.hid (fun w => before_any a a w)
  rw [before_irr] at H5
  have HKn := Lib.hid (fun w hL => known_any w hL)
  have HK := Lib.hid (N2.new a b w)
  have HB := Lib.hid (bel_two w a b)
  have hT0 : (some false == some false) = true := rfl
  have hT1 : (some true == some true) = true := rfl
  have hF0 : (some true == some false) = false := rfl
  have hF1 : (some false == some true) = false := rfl
  have hN0 : ((none : Option Bool) == some false) = false := rfl
  have hN1 : ((none : Option Bool) == some true) = false := rfl
  clear hL
  generalize beforeN a b = p at *
  generalize beforeN b a = q at *
  have hp : (p == p) = true := by simp
  have hq : (q == q) = true := by simp
  go_enter Tryz.func4, Tryz.ntmps4
  go_wp2_with fail
  generalize (w.alloc (.cells (nc a) 25)).alloc (.cells (nc b) 25) = w1 at *
  have hb : Below w1.heap.size w1 w1.drew := (Below.refl _ _).drew
  replace HK := Lib.hid (HK.out.keep hb)
  replace HB := bel_tr HB hb
  clear hb
  refine Sch.wp_region_tn (N2 w.heap.size (w.heap.size + 1) a b) (.val 0 (.val 1 (.val 3 (.val 4 (.one 2 (.one 5 (.val 6 (.val 7 (.val 8 (.val 9 (.val 11 (.val 12 (.one 10 (.one 13 (.val 14 (.val 15 (.val 16 (.val 17 (.val 18 (.one 19 (.val 20 (.val 21 (.val 22 (.one 23 (.val 24 (.val 25 .done)))))))))))))))))))))))))) (by kernel_rfl) (by kernel_rfl) HK.out ?_
  generalize w1.drew = w2 at *
  refine Sch.tn_load _ _ _ _ _ rfl rfl rfl rfl (by exact N2.na) rfl ?_
  simp only [Act.put, List.setIfInBounds_toArray, List.set_cons_zero, List.set_cons_succ]
  refine Sch.tn_load _ _ _ _ _ rfl rfl rfl rfl (by exact N2.nb) rfl ?_
  simp only [Act.put, List.setIfInBounds_toArray, List.set_cons_zero, List.set_cons_succ]
  refine Sch.tn_load _ _ _ _ _ rfl rfl rfl rfl (by exact N2.na) rfl ?_
  simp only [Act.put, List.setIfInBounds_toArray, List.set_cons_zero, List.set_cons_succ]
  refine Sch.tn_load _ _ _ _ _ rfl rfl rfl rfl (by exact N2.nb) rfl ?_
  simp only [Act.put, List.setIfInBounds_toArray, List.set_cons_zero, List.set_cons_succ]
  refine Sch.tn_e rfl rfl (fun K hK => ?_)
  go_wp2_with fail
  refine (H1.out _).mono ?_
  rintro e w3 ⟨rfl, hb⟩
  replace HK := Lib.hid (HK.out.keep hb)
  replace HB := bel_tr HB hb
  clear hb
  refine hK _ _ HK.out ?_
  clear hK K
  refine Sch.tn_e rfl rfl (fun K hK => ?_)
  go_wp2_with fail
  refine (H2.out _).mono ?_
  rintro e w4 ⟨rfl, hb⟩
  replace HK := Lib.hid (HK.out.keep hb)
  replace HB := bel_tr HB hb
  clear hb
  refine hK _ _ HK.out ?_
  clear hK K
  refine Sch.tn_q rfl rfl rfl (fun K hK => ?_)
  go_big_quiet_op
  first | refine hK _ ?_ | refine ⟨_, fun _ _ => rfl, hK _ ?_⟩
  clear hK K
  refine Sch.tn_q rfl rfl rfl (fun K hK => ?_)
  go_big_quiet_op
  first | refine hK _ ?_ | refine ⟨_, fun _ _ => rfl, hK _ ?_⟩
  clear hK K
  refine Sch.tn_load _ _ _ _ _ rfl rfl hT1 rfl (by exact N2.nb) rfl ?_
  simp only [Act.put, List.setIfInBounds_toArray, List.set_cons_zero, List.set_cons_succ]
  refine Sch.tn_load _ _ _ _ _ rfl rfl hT1 rfl (by exact N2.na) rfl ?_
  simp only [Act.put, List.setIfInBounds_toArray, List.set_cons_zero, List.set_cons_succ]
  refine Sch.tn_load _ _ _ _ _ rfl rfl hT1 rfl (by exact N2.nb) rfl ?_
  simp only [Act.put, List.setIfInBounds_toArray, List.set_cons_zero, List.set_cons_succ]
  refine Sch.tn_load _ _ _ _ _ rfl rfl hT1 rfl (by exact N2.na) rfl ?_
  simp only [Act.put, List.setIfInBounds_toArray, List.set_cons_zero, List.set_cons_succ]
  refine Sch.tn_e rfl hT1 (fun K hK => ?_)
  go_wp2_with fail
  refine (H3.out _).mono ?_
  rintro e w5 ⟨rfl, hb⟩
  replace HK := Lib.hid (HK.out.keep hb)
  replace HB := bel_tr HB hb
  clear hb
  refine hK _ _ HK.out ?_
  clear hK K
  refine Sch.tn_e rfl hT1 (fun K hK => ?_)
  go_wp2_with fail
  refine (H4.out _).mono ?_
  rintro e w6 ⟨rfl, hb⟩
  replace HK := Lib.hid (HK.out.keep hb)
  replace HB := bel_tr HB hb
  clear hb
  refine hK _ _ HK.out ?_
  clear hK K
  refine Sch.tn_q rfl rfl hT1 (fun K hK => ?_)
  go_big_quiet_op
  first | refine hK _ ?_ | refine ⟨_, fun _ _ => rfl, hK _ ?_⟩
  clear hK K
  refine Sch.tn_q rfl rfl rfl (fun K hK => ?_)
  go_big_quiet_op
  first | refine hK _ ?_ | refine ⟨_, fun _ _ => rfl, hK _ ?_⟩
  clear hK K
  refine Sch.tn_q rfl rfl rfl (fun K hK => ?_)
  go_big_quiet_op
  first | refine hK _ ?_ | refine ⟨_, fun _ _ => rfl, hK _ ?_⟩
  clear hK K
  refine Sch.tn_load _ _ _ _ _ rfl rfl hT1 rfl (by exact N2.na) rfl ?_
  simp only [Act.put, List.setIfInBounds_toArray, List.set_cons_zero, List.set_cons_succ]
  refine Sch.tn_load _ _ _ _ _ rfl rfl hT1 rfl (by exact N2.na) rfl ?_
  simp only [Act.put, List.setIfInBounds_toArray, List.set_cons_zero, List.set_cons_succ]
  refine Sch.tn_e rfl hT1 (fun K hK => ?_)
  go_wp2_with fail
  refine (H5.out _).mono ?_
  rintro e w7 ⟨rfl, hb⟩
  replace HK := Lib.hid (HK.out.keep hb)
  replace HB := bel_tr HB hb
  clear hb
  refine hK _ _ HK.out ?_
  clear hK K
  refine Sch.tn_q rfl rfl hT1 (fun K hK => ?_)
  go_big_quiet_op
  first | refine hK _ ?_ | refine ⟨_, fun _ _ => rfl, hK _ ?_⟩
  clear hK K
  refine Sch.tn_q rfl rfl rfl (fun K hK => ?_)
  go_big_quiet_op
  first | refine hK _ ?_ | refine ⟨_, fun _ _ => rfl, hK _ ?_⟩
  clear hK K
  refine Sch.tn_q rfl rfl rfl (fun K hK => ?_)
  go_big_quiet_op
  first | refine hK _ ?_ | refine ⟨_, fun _ _ => rfl, hK _ ?_⟩
  clear hK K
  refine Sch.tn_e rfl hT1 (fun K hK => ?_)
  go_wp2_with fail
  refine (HKn.out _ (HL.out.below HB.out)).mono ?_
  rintro e w8 ⟨rfl, hb⟩
  replace HK := Lib.hid (HK.out.keep hb)
  replace HB := bel_tr HB hb
  clear hb
  refine hK _ _ HK.out ?_
  clear hK K
  refine Sch.tn_q rfl rfl rfl (fun K hK => ?_)
  go_big_quiet_op
  first | refine hK _ ?_ | refine ⟨_, fun _ _ => rfl, hK _ ?_⟩
  clear hK K
  refine Sch.tn_q rfl rfl rfl (fun K hK => ?_)
  go_big_quiet_op
  first | refine hK _ ?_ | refine ⟨_, fun _ _ => rfl, hK _ ?_⟩
  clear hK K
  refine Sch.tn_n ?_
  go_wp2_with fail
  go_ret
  exact ⟨rfl, HB.out⟩
end Go.Proofs.YtmmcnpcijeahcabGreatDoor.Nd
