/-
  NodeValid.
-/
import Derived.Test.YtmmcnpcijeahcabGreatDoorNKnown
import Derived.Test.YtmmcnpcijeahcabGreatDoorNRef
namespace Go.Proofs.YtmmcnpcijeahcabGreatDoor.Nd
set_option linter.unusedVariables false
open Go.RowKit V Go.Sort D
attribute [local irreducible] Sch.heldN Sch.stepV Sch.stepE

set_option maxRecDepth 100000 in
theorem kill_ref (n : Nt) (w : World) : Calls Tryz.prog 12 #[nv n] w fun e w' => e = .returned (nv (killN n)) ∧ Lays w w' := by
  obtain ⟨⟨d1, d2⟩, ⟨p1, p2⟩, t, q⟩ := n
  go_enter Tryz.func12, Tryz.ntmps12
  go_wp2_with fail
  (try simp only [Exit.inBlock, Exit.then])
  refine bodyPost_ret (v := .agg #[.int .i64 d1, .int .i64 d2, .int .i64 p1, .int .i64 p2, .int .i64 t, .int .i32 0]) (by rw [results_cell1 (fn := Tryz.f12) (p := 2) (ty := 25) rfl]; go_simp) rfl ?_
  exact ⟨rfl, lays_alloc2 _ _ _⟩
theorem NbS.n {g : Nat} {n : Nt} : ∀ w, NbS g n w → (Instr.loadAt 25 (.pointer (some ⟨g, 0, none⟩))).run Tryz.prog w = .ok (nv n) w := fun w k => Nb.load k
theorem NbS.r {g : Nat} {n : Nt} : ∀ w, NbS g n w → (Instr.loadAt 21 (.pointer (some ⟨g, 5, none⟩))).run Tryz.prog w = .ok (.int .i32 n.2.2.2) w := fun w k => Nb.loadR k

set_option maxRecDepth 100000 in
set_option maxHeartbeats 8000000 in
theorem valid_law (a : Nt) (w : World) (hL : Ln w) (ha : i32 a.2.2.2) : Calls Tryz.prog 3 #[nv a] w fun e w' => e = .returned (.bool true) ∧ Below w.heap.size w w' := by
  have HL := Lib.hid hL
  have H1 := Lib.hid (fun w => validN_any a w)
  have H2 := Lib.hid (fun w => validN_ref a ha w)
  have H3 := Lib.hid (fun w => (dead_any a w).mono fun e w' h => And.intro h.1 h.2.bel)
  have H4 := Lib.hid (fun w => (kill_any a w).mono fun e w' h => And.intro h.1 h.2.bel)
  have H5 := Lib.hid (fun w => (kill_ref a w).mono fun e w' h => And.intro h.1 h.2.bel)
  have HKn := Lib.hid (fun w hL => known_any w hL)
  have HK := Lib.hid (Nb.new w a)
  have HB := Lib.hid (bel_box w (.cells (nc a) 25))
  have hT0 : (some false == some false) = true := rfl
  have hT1 : (some true == some true) = true := rfl
  have hF0 : (some true == some false) = false := rfl
  have hF1 : (some false == some true) = false := rfl
  have hN0 : ((none : Option Bool) == some false) = false := rfl
  have hN1 : ((none : Option Bool) == some true) = false := rfl
  have hself := eql_self (killN a)
  have hdd : (a.2.2.2 == 0) = deadN a := rfl
  clear hL ha
  generalize validN a = v at *
  generalize deadN a = d at *
  generalize killN a = ka at *
  have hv : (v == v) = true := by simp
  have hd : (d == d) = true := by simp
  go_enter Tryz.func3, Tryz.ntmps3
  go_wp2_with fail
  generalize w.alloc (.cells (nc a) 25) = w1 at *
  have hb : Below w1.heap.size w1 w1.drew := (Below.refl _ _).drew
  replace HK := Lib.hid (HK.out.keep hb)
  replace HB := bel_tr HB hb
  clear hb
  refine Sch.wp_region_tn (NbS w.heap.size a) (.val 0 (.val 2 (.one 1 (.one 3 (.val 4 (.val 5 (.val 6 (.val 8 (.val 9 (.val 10 (.one 7 (.val 11 (.val 12 (.val 13 (.val 14 (.val 16 (.one 15 (.one 17 (.val 18 (.val 19 (.val 20 (.one 21 (.val 22 (.val 23 .done)))))))))))))))))))))))) (by kernel_rfl) (by kernel_rfl) HK.out ?_
  generalize w1.drew = w2 at *
  refine Sch.tn_load _ _ _ _ _ rfl rfl rfl rfl (by exact NbS.n) rfl ?_
  simp only [Act.put, List.setIfInBounds_toArray, List.set_cons_zero, List.set_cons_succ]
  refine Sch.tn_load _ _ _ _ _ rfl rfl rfl rfl (by exact NbS.n) rfl ?_
  simp only [Act.put, List.setIfInBounds_toArray, List.set_cons_zero, List.set_cons_succ]
  refine Sch.tn_e rfl rfl (fun K hK => ?_)
  go_wp2_with fail
  refine (H1.out _).mono ?_
  rintro e w3 ⟨rfl, hb⟩
  replace HK := Lib.hid (HK.out.keep hb)
  replace HB := bel_tr HB hb
  clear hb
  refine hK _ _ HK.out ?_
  clear hK K
  refine Sch.tn_e rfl rfl (fun K hK => ?_)
  go_wp2_with fail
  refine (H2.out _).mono ?_
  rintro e w4 ⟨rfl, hb⟩
  replace HK := Lib.hid (HK.out.keep hb)
  replace HB := bel_tr HB hb
  clear hb
  refine hK _ _ HK.out ?_
  clear hK K
  refine Sch.tn_q rfl rfl rfl (fun K hK => ?_)
  go_big_quiet_op
  first | refine hK _ ?_ | refine ⟨_, fun _ _ => rfl, hK _ ?_⟩
  clear hK K
  refine Sch.tn_q rfl rfl rfl (fun K hK => ?_)
  go_big_quiet_op
  first | refine hK _ ?_ | refine ⟨_, fun _ _ => rfl, hK _ ?_⟩
  clear hK K
  refine Sch.tn_load _ _ _ _ _ rfl rfl hT1 rfl (by exact NbS.n) rfl ?_
  simp only [Act.put, List.setIfInBounds_toArray, List.set_cons_zero, List.set_cons_succ]
  refine Sch.tn_q rfl rfl hT1 (fun K hK => ?_)
  go_big_quiet_op
  first | refine hK _ ?_ | refine ⟨_, fun _ _ => rfl, hK _ ?_⟩
  clear hK K
  refine Sch.tn_load _ _ _ _ _ rfl rfl hT1 rfl (by exact NbS.r) rfl ?_
  simp only [Act.put, List.setIfInBounds_toArray, List.set_cons_zero, List.set_cons_succ]
  refine Sch.tn_q rfl rfl hT1 (fun K hK => ?_)
  go_big_quiet_op
  first | refine hK _ ?_ | refine ⟨_, fun _ _ => rfl, hK _ ?_⟩
  clear hK K
  refine Sch.tn_e rfl hT1 (fun K hK => ?_)
  go_wp2_with fail
  refine (H3.out _).mono ?_
  rintro e w5 ⟨rfl, hb⟩
  replace HK := Lib.hid (HK.out.keep hb)
  replace HB := bel_tr HB hb
  clear hb
  refine hK _ _ HK.out ?_
  clear hK K
  refine Sch.tn_q rfl rfl hT1 (fun K hK => ?_)
  go_big_quiet_op
  first | refine hK _ ?_ | refine ⟨_, fun _ _ => rfl, hK _ ?_⟩
  clear hK K
  refine Sch.tn_q rfl rfl rfl (fun K hK => ?_)
  go_big_quiet_op
  first | refine hK _ ?_ | refine ⟨_, fun _ _ => rfl, hK _ ?_⟩
  clear hK K
  refine Sch.tn_q rfl rfl rfl (fun K hK => ?_)
  go_big_quiet_op
  first | refine hK _ ?_ | refine ⟨_, fun _ _ => rfl, hK _ ?_⟩
  clear hK K
  refine Sch.tn_load _ _ _ _ _ rfl rfl hT1 rfl (by exact NbS.n) rfl ?_
  simp only [Act.put, List.setIfInBounds_toArray, List.set_cons_zero, List.set_cons_succ]
  refine Sch.tn_load _ _ _ _ _ rfl rfl hT1 rfl (by exact NbS.n) rfl ?_
  simp only [Act.put, List.setIfInBounds_toArray, List.set_cons_zero, List.set_cons_succ]
  refine Sch.tn_e rfl hT1 (fun K hK => ?_)
  go_wp2_with fail
  refine (H4.out _).mono ?_
  rintro e w6 ⟨rfl, hb⟩
  replace HK := Lib.hid (HK.out.keep hb)
  replace HB := bel_tr HB hb
  clear hb
  refine hK _ _ HK.out ?_
  clear hK K
  refine Sch.tn_e rfl hT1 (fun K hK => ?_)
  go_wp2_with fail
  refine (H5.out _).mono ?_
  rintro e w7 ⟨rfl, hb⟩
  replace HK := Lib.hid (HK.out.keep hb)
  replace HB := bel_tr HB hb
  clear hb
  refine hK _ _ HK.out ?_
  clear hK K
  refine Sch.tn_q rfl rfl hT1 (fun K hK => ?_)
  go_big_quiet_op
  first | refine hK _ ?_ | refine ⟨_, fun _ _ => rfl, hK _ ?_⟩
  clear hK K
  refine Sch.tn_q rfl rfl rfl (fun K hK => ?_)
  go_big_quiet_op
  first | refine hK _ ?_ | refine ⟨_, fun _ _ => rfl, hK _ ?_⟩
  clear hK K
  refine Sch.tn_q rfl rfl rfl (fun K hK => ?_)
  go_big_quiet_op
  first | refine hK _ ?_ | refine ⟨_, fun _ _ => rfl, hK _ ?_⟩
  clear hK K
  refine Sch.tn_e rfl hT1 (fun K hK => ?_)
  go_wp2_with fail
  refine (HKn.out _ (HL.out.below HB.out)).mono ?_
  rintro e w8 ⟨rfl, hb⟩
  replace HK := Lib.hid (HK.out.keep hb)
  replace HB := bel_tr HB hb
  clear hb
  refine hK _ _ HK.out ?_
  clear hK K
  refine Sch.tn_q rfl rfl rfl (fun K hK => ?_)
  go_big_quiet_op
  first | refine hK _ ?_ | refine ⟨_, fun _ _ => rfl, hK _ ?_⟩
  clear hK K
  refine Sch.tn_q rfl rfl rfl (fun K hK => ?_)
  go_big_quiet_op
  first | refine hK _ ?_ | refine ⟨_, fun _ _ => rfl, hK _ ?_⟩
  clear hK K
  refine Sch.tn_n ?_
  go_wp2_with fail
  go_ret
  exact ⟨rfl, HB.out⟩
end Go.Proofs.YtmmcnpcijeahcabGreatDoor.Nd
