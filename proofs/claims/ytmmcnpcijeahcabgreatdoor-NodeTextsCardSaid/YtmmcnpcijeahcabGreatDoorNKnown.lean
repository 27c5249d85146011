/-
  The examples of the chapter.
-/
import Derived.Test.YtmmcnpcijeahcabGreatDoorNLaw
namespace Go.Proofs.YtmmcnpcijeahcabGreatDoor.Nd
set_option linter.unusedVariables false
open Go.RowKit V Go.Sort D
attribute [local irreducible] Sch.heldN Sch.stepV Sch.stepE

abbrev nA : Nt := ((1, 1), (0, 0), 1, 97)
abbrev nD : Nt := ((1, 1), (0, 0), 1, 0)
/-- The three boxes of the examples. -/
def KN (g : Nat) (w : World) : Prop := Nb w g nA ∧ Nb w (g + 1) nD ∧ Nb w (g + 1 + 1) zeroN
theorem KN.keep {g : Nat} {w w' : World} (h : KN g w) (hb : Below w.heap.size w w') : KN g w' := ⟨h.1.keep hb, h.2.1.keep hb, h.2.2.keep hb⟩
theorem KN.a {g : Nat} : ∀ w, KN g w → (Instr.loadAt 25 (.pointer (some ⟨g, 0, none⟩))).run Tryz.prog w = .ok (.agg #[.int .i64 1, .int .i64 1, .int .i64 0, .int .i64 0, .int .i64 1, .int .i32 97]) w := fun w h => h.1.load
theorem KN.d {g : Nat} : ∀ w, KN g w → (Instr.loadAt 25 (.pointer (some ⟨g + 1, 0, none⟩))).run Tryz.prog w = .ok (.agg #[.int .i64 1, .int .i64 1, .int .i64 0, .int .i64 0, .int .i64 1, .int .i32 0]) w := fun w h => h.2.1.load
theorem KN.z {g : Nat} : ∀ w, KN g w → (Instr.loadAt 25 (.pointer (some ⟨g + 1 + 1, 0, none⟩))).run Tryz.prog w = .ok (.agg #[.int .i64 0, .int .i64 0, .int .i64 0, .int .i64 0, .int .i64 0, .int .i32 0]) w := fun w h => h.2.2.load
theorem valid_lit (n : Nt) (b : Bool) (h : validN n = b) (w : World) : Calls Tryz.prog 8 #[nv n] w fun e w' => e = .returned (.bool b) ∧ Below w.heap.size w w' := by rw [← h]; exact validN_any n w
theorem dead_lit (n : Nt) (b : Bool) (h : deadN n = b) (w : World) : Calls Tryz.prog 10 #[nv n] w fun e w' => e = .returned (.bool b) ∧ Below w.heap.size w w' := by rw [← h]; exact (dead_any n w).mono fun _ _ ⟨h1, h2⟩ => ⟨h1, h2.bel⟩
theorem kill_lit (n m : Nt) (h : killN n = m) (w : World) : Calls Tryz.prog 11 #[nv n] w fun e w' => e = .returned (nv m) ∧ Below w.heap.size w w' := by rw [← h]; exact (kill_any n w).mono fun _ _ ⟨h1, h2⟩ => ⟨h1, h2.bel⟩
theorem before_lit (a b : Nt) (c : Bool) (h : beforeN a b = c) (w : World) : Calls Tryz.prog 14 #[nv a, nv b] w fun e w' => e = .returned (.bool c) ∧ Below w.heap.size w w' := by rw [← h]; exact before_any a b w
theorem neq_dd : ∀ w, Sem.run Tryz.prog (binOp .neq 25 (.agg #[.int .i64 1, .int .i64 1, .int .i64 0, .int .i64 0, .int .i64 1, .int .i32 0]) (.agg #[.int .i64 1, .int .i64 1, .int .i64 0, .int .i64 0, .int .i64 1, .int .i32 0])) w = .ok (.bool false) w := fun w => by
  have := neq_node nD nD w
  rwa [decide_eq_true rfl] at this

set_option maxRecDepth 100000 in
set_option maxHeartbeats 8000000 in
theorem known_any (w : World) (hL : Ln w) : Calls Tryz.prog 13 #[] w fun e w' => e = .returned (.bool true) ∧ Below w.heap.size w w' := by
  have HL := Lib.hid hL
  have HB : Hid (Below w.heap.size w w) := Below.refl _ _
  have hdd := neq_dd
  have hT0 : (some false == some false) = true := rfl
  have hT1 : (some true == some true) = true := rfl
  have hF0 : (some true == some false) = false := rfl
  have hF1 : (some false == some true) = false := rfl
  have hN0 : ((none : Option Bool) == some false) = false := rfl
  have hN1 : ((none : Option Bool) == some true) = false := rfl
  clear hL
  go_enter Tryz.func13, Tryz.ntmps13
  go_wp2_with fail
  refine (of0_any 1 1 1 97 _).mono ?_
  rintro e w1 ⟨rfl, hb⟩
  replace HB := bel_tr HB hb
  clear hb
  go_wp2_with fail
  refine (of0_any 1 1 1 0 _).mono ?_
  rintro e w2 ⟨rfl, hb⟩
  replace HB := bel_tr HB hb
  clear hb
  go_wp2_with fail
  have HK : Hid (KN w2.heap.size (((w2.alloc (.cells #[.int .i64 1, .int .i64 1, .int .i64 0, .int .i64 0, .int .i64 1, .int .i32 97] 25)).alloc (.cells #[.int .i64 1, .int .i64 1, .int .i64 0, .int .i64 0, .int .i64 1, .int .i32 0] 25)).alloc (.cells #[.int .i64 0, .int .i64 0, .int .i64 0, .int .i64 0, .int .i64 0, .int .i32 0] 25))) := by
    refine ⟨⟨?_, ?_, ?_, ?_, ?_, ?_⟩, ⟨?_, ?_, ?_, ?_, ?_, ?_⟩, ⟨?_, ?_, ?_, ?_, ?_, ?_⟩⟩ <;> (show World.cell? _ _ = _) <;> go_simp <;> rfl
  replace HB : Hid (Below w.heap.size w (((w2.alloc (.cells #[.int .i64 1, .int .i64 1, .int .i64 0, .int .i64 0, .int .i64 1, .int .i32 97] 25)).alloc (.cells #[.int .i64 1, .int .i64 1, .int .i64 0, .int .i64 0, .int .i64 1, .int .i32 0] 25)).alloc (.cells #[.int .i64 0, .int .i64 0, .int .i64 0, .int .i64 0, .int .i64 0, .int .i32 0] 25))) := ((HB.out.alloc HB.out.size _).alloc (by have := HB.out.size; simp; omega) _).alloc (by have := HB.out.size; simp; omega) _
  generalize ((w2.alloc (.cells #[.int .i64 1, .int .i64 1, .int .i64 0, .int .i64 0, .int .i64 1, .int .i32 97] 25)).alloc (.cells #[.int .i64 1, .int .i64 1, .int .i64 0, .int .i64 0, .int .i64 1, .int .i32 0] 25)).alloc (.cells #[.int .i64 0, .int .i64 0, .int .i64 0, .int .i64 0, .int .i64 0, .int .i32 0] 25) = w3 at *
  generalize w2.heap.size = g at *
  have hb : Below w3.heap.size w3 w3.drew := (Below.refl _ _).drew
  replace HK := Lib.hid (HK.out.keep hb)
  replace HB := bel_tr HB hb
  clear hb
  refine Sch.wp_region_tn (KN g) (.val 0 (.one 1 (.val 2 (.val 3 (.one 4 (.one 5 (.val 6 (.val 7 (.val 8 (.one 9 (.one 10 (.val 11 (.val 12 (.one 13 (.one 14 (.val 15 (.val 16 (.one 17 (.one 18 (.val 19 (.val 20 (.val 21 (.val 22 (.val 24 (.one 23 (.val 25 (.val 26 .done))))))))))))))))))))))))))) (by kernel_rfl) (by kernel_rfl) HK.out ?_
  generalize w3.drew = w4 at *
  refine Sch.tn_load _ _ _ _ _ rfl rfl rfl rfl (by exact KN.a) rfl ?_
  simp only [Act.put, List.setIfInBounds_toArray, List.set_cons_zero, List.set_cons_succ]
  refine Sch.tn_e rfl rfl (fun K hK => ?_)
  go_wp2_with fail
  refine (valid_lit nA true (by decide) _).mono ?_
  rintro e w5 ⟨rfl, hb⟩
  replace HK := Lib.hid (HK.out.keep hb)
  replace HB := bel_tr HB hb
  clear hb
  refine hK _ _ HK.out ?_
  clear hK K
  refine Sch.tn_q rfl rfl rfl (fun K hK => ?_)
  go_big_quiet_op
  first | refine hK _ ?_ | refine ⟨_, fun _ _ => rfl, hK _ ?_⟩
  clear hK K
  refine Sch.tn_q rfl rfl rfl (fun K hK => ?_)
  go_big_quiet_op
  first | refine hK _ ?_ | refine ⟨_, fun _ _ => rfl, hK _ ?_⟩
  clear hK K
  refine Sch.tn_e rfl hT0 (fun K hK => ?_)
  go_wp2_with fail
  refine (ofP_any 1 2 1 2 0 (by decide) _).mono ?_
  rintro e w6 ⟨rfl, hb⟩
  replace HK := Lib.hid (HK.out.keep hb)
  replace HB := bel_tr HB hb
  clear hb
  refine hK _ _ HK.out ?_
  clear hK K
  refine Sch.tn_e rfl hT0 (fun K hK => ?_)
  go_wp2_with fail
  refine (valid_lit ((1, 2), (1, 1), 2, 0) true (by decide) _).mono ?_
  rintro e w7 ⟨rfl, hb⟩
  replace HK := Lib.hid (HK.out.keep hb)
  replace HB := bel_tr HB hb
  clear hb
  refine hK _ _ HK.out ?_
  clear hK K
  refine Sch.tn_q rfl rfl hT0 (fun K hK => ?_)
  go_big_quiet_op
  first | refine hK _ ?_ | refine ⟨_, fun _ _ => rfl, hK _ ?_⟩
  clear hK K
  refine Sch.tn_q rfl rfl rfl (fun K hK => ?_)
  go_big_quiet_op
  first | refine hK _ ?_ | refine ⟨_, fun _ _ => rfl, hK _ ?_⟩
  clear hK K
  refine Sch.tn_q rfl rfl rfl (fun K hK => ?_)
  go_big_quiet_op
  first | refine hK _ ?_ | refine ⟨_, fun _ _ => rfl, hK _ ?_⟩
  clear hK K
  refine Sch.tn_e rfl hT0 (fun K hK => ?_)
  go_wp2_with fail
  refine (ofP_any 1 1 1 2 0 (by decide) _).mono ?_
  rintro e w8 ⟨rfl, hb⟩
  replace HK := Lib.hid (HK.out.keep hb)
  replace HB := bel_tr HB hb
  clear hb
  refine hK _ _ HK.out ?_
  clear hK K
  refine Sch.tn_e rfl hT0 (fun K hK => ?_)
  go_wp2_with fail
  refine (valid_lit ((1, 1), (1, 1), 2, 0) false (by decide) _).mono ?_
  rintro e w9 ⟨rfl, hb⟩
  replace HK := Lib.hid (HK.out.keep hb)
  replace HB := bel_tr HB hb
  clear hb
  refine hK _ _ HK.out ?_
  clear hK K
  refine Sch.tn_q rfl rfl rfl (fun K hK => ?_)
  go_big_quiet_op
  first | refine hK _ ?_ | refine ⟨_, fun _ _ => rfl, hK _ ?_⟩
  clear hK K
  refine Sch.tn_q rfl rfl rfl (fun K hK => ?_)
  go_big_quiet_op
  first | refine hK _ ?_ | refine ⟨_, fun _ _ => rfl, hK _ ?_⟩
  clear hK K
  refine Sch.tn_e rfl hT0 (fun K hK => ?_)
  go_wp2_with fail
  refine (of0_any 1 1 0 0 _).mono ?_
  rintro e w10 ⟨rfl, hb⟩
  replace HK := Lib.hid (HK.out.keep hb)
  replace HB := bel_tr HB hb
  clear hb
  refine hK _ _ HK.out ?_
  clear hK K
  refine Sch.tn_e rfl hT0 (fun K hK => ?_)
  go_wp2_with fail
  refine (valid_lit ((1, 1), (0, 0), 0, 0) false (by decide) _).mono ?_
  rintro e w11 ⟨rfl, hb⟩
  replace HK := Lib.hid (HK.out.keep hb)
  replace HB := bel_tr HB hb
  clear hb
  refine hK _ _ HK.out ?_
  clear hK K
  refine Sch.tn_q rfl rfl rfl (fun K hK => ?_)
  go_big_quiet_op
  first | refine hK _ ?_ | refine ⟨_, fun _ _ => rfl, hK _ ?_⟩
  clear hK K
  refine Sch.tn_q rfl rfl rfl (fun K hK => ?_)
  go_big_quiet_op
  first | refine hK _ ?_ | refine ⟨_, fun _ _ => rfl, hK _ ?_⟩
  clear hK K
  refine Sch.tn_e rfl hT0 (fun K hK => ?_)
  go_wp2_with fail
  refine (ofP_any 1 2 1 2 0 (by decide) _).mono ?_
  rintro e w12 ⟨rfl, hb⟩
  replace HK := Lib.hid (HK.out.keep hb)
  replace HB := bel_tr HB hb
  clear hb
  refine hK _ _ HK.out ?_
  clear hK K
  refine Sch.tn_e rfl hT0 (fun K hK => ?_)
  go_wp2_with fail
  refine (dead_lit ((1, 2), (1, 1), 2, 0) true (by decide) _).mono ?_
  rintro e w13 ⟨rfl, hb⟩
  replace HK := Lib.hid (HK.out.keep hb)
  replace HB := bel_tr HB hb
  clear hb
  refine hK _ _ HK.out ?_
  clear hK K
  refine Sch.tn_q rfl rfl hT0 (fun K hK => ?_)
  go_big_quiet_op
  first | refine hK _ ?_ | refine ⟨_, fun _ _ => rfl, hK _ ?_⟩
  clear hK K
  refine Sch.tn_q rfl rfl rfl (fun K hK => ?_)
  go_big_quiet_op
  first | refine hK _ ?_ | refine ⟨_, fun _ _ => rfl, hK _ ?_⟩
  clear hK K
  refine Sch.tn_q rfl rfl rfl (fun K hK => ?_)
  go_big_quiet_op
  first | refine hK _ ?_ | refine ⟨_, fun _ _ => rfl, hK _ ?_⟩
  clear hK K
  refine Sch.tn_load _ _ _ _ _ rfl rfl hT0 rfl (by exact KN.a) rfl ?_
  simp only [Act.put, List.setIfInBounds_toArray, List.set_cons_zero, List.set_cons_succ]
  refine Sch.tn_load _ _ _ _ _ rfl rfl hT0 rfl (by exact KN.d) rfl ?_
  simp only [Act.put, List.setIfInBounds_toArray, List.set_cons_zero, List.set_cons_succ]
  refine Sch.tn_e rfl hT0 (fun K hK => ?_)
  go_wp2_with fail
  refine (kill_lit nA nD rfl _).mono ?_
  rintro e w14 ⟨rfl, hb⟩
  replace HK := Lib.hid (HK.out.keep hb)
  replace HB := bel_tr HB hb
  clear hb
  refine hK _ _ HK.out ?_
  clear hK K
  refine Sch.tn_q rfl rfl hT0 (fun K hK => ?_)
  go_big_quiet_op
  first | refine hK _ ?_ | refine ⟨_, fun _ _ => rfl, hK _ ?_⟩
  clear hK K
  refine Sch.tn_q rfl rfl rfl (fun K hK => ?_)
  go_big_quiet_op
  first | refine hK _ ?_ | refine ⟨_, fun _ _ => rfl, hK _ ?_⟩
  clear hK K
  refine Sch.tn_n ?_
  go_wp2_with fail
  refine (of0_any 1 2 5 0 _).mono ?_
  rintro e w15 ⟨rfl, hb⟩
  replace HK := Lib.hid (HK.out.keep hb)
  replace HB := bel_tr HB hb
  clear hb
  go_wp2_with fail
  refine (of0_any 9 1 4 0 _).mono ?_
  rintro e w16 ⟨rfl, hb⟩
  replace HK := Lib.hid (HK.out.keep hb)
  replace HB := bel_tr HB hb
  clear hb
  go_wp2_with fail
  refine (before_lit ((1, 2), (0, 0), 5, 0) ((9, 1), (0, 0), 4, 0) true (by decide) _).mono ?_
  rintro e w17 ⟨rfl, hb⟩
  replace HK := Lib.hid (HK.out.keep hb)
  replace HB := bel_tr HB hb
  clear hb
  go_wp2_with fail
  refine (of0_any 1 2 5 0 _).mono ?_
  rintro e w18 ⟨rfl, hb⟩
  replace HK := Lib.hid (HK.out.keep hb)
  replace HB := bel_tr HB hb
  clear hb
  go_wp2_with fail
  refine (of0_any 2 2 5 0 _).mono ?_
  rintro e w19 ⟨rfl, hb⟩
  replace HK := Lib.hid (HK.out.keep hb)
  replace HB := bel_tr HB hb
  clear hb
  go_wp2_with fail
  refine (before_lit ((1, 2), (0, 0), 5, 0) ((2, 2), (0, 0), 5, 0) false (by decide) _).mono ?_
  rintro e w20 ⟨rfl, hb⟩
  replace HK := Lib.hid (HK.out.keep hb)
  replace HB := bel_tr HB hb
  clear hb
  go_wp2_with fail
  refine (of0_any 1 1 5 0 _).mono ?_
  rintro e w21 ⟨rfl, hb⟩
  replace HK := Lib.hid (HK.out.keep hb)
  replace HB := bel_tr HB hb
  clear hb
  go_wp2_with fail
  refine (of0_any 1 1 5 0 _).mono ?_
  rintro e w22 ⟨rfl, hb⟩
  replace HK := Lib.hid (HK.out.keep hb)
  replace HB := bel_tr HB hb
  clear hb
  go_wp2_with fail
  refine (before_lit ((1, 1), (0, 0), 5, 0) ((1, 1), (0, 0), 5, 0) false (by decide) _).mono ?_
  rintro e w23 ⟨rfl, hb⟩
  replace HK := Lib.hid (HK.out.keep hb)
  replace HB := bel_tr HB hb
  clear hb
  go_wp2_with fail
  have hb : Below w23.heap.size w23 w23.drew := (Below.refl _ _).drew
  replace HK := Lib.hid (HK.out.keep hb)
  replace HB := bel_tr HB hb
  clear hb
  refine Sch.wp_region_tn (KN g) (.val 0 (.val 1 (.val 2 (.one 3 (.val 4 (.val 5 (.val 6 (.val 8 (.one 7 (.one 9 (.val 10 (.val 11 (.val 12 (.val 13 (.val 15 (.one 14 (.one 16 (.val 17 (.val 18 (.val 19 (.val 20 (.val 22 (.one 21 (.one 23 (.val 24 (.val 25 .done)))))))))))))))))))))))))) (by kernel_rfl) (by kernel_rfl) HK.out ?_
  generalize w23.drew = w24 at *
  refine Sch.tn_load _ _ _ _ _ rfl rfl rfl rfl (by exact KN.a) rfl ?_
  simp only [Act.put, List.setIfInBounds_toArray, List.set_cons_zero, List.set_cons_succ]
  refine Sch.tn_load _ _ _ _ _ rfl rfl rfl rfl (by exact KN.d) rfl ?_
  simp only [Act.put, List.setIfInBounds_toArray, List.set_cons_zero, List.set_cons_succ]
  refine Sch.tn_load _ _ _ _ _ rfl rfl rfl rfl (by exact KN.d) rfl ?_
  simp only [Act.put, List.setIfInBounds_toArray, List.set_cons_zero, List.set_cons_succ]
  refine Sch.tn_e rfl rfl (fun K hK => ?_)
  go_wp2_with fail
  refine (merges_any nA nD nD 0 (by decide) _).mono ?_
  rintro e w25 ⟨rfl, hb⟩
  replace HK := Lib.hid (HK.out.keep hb)
  replace HB := bel_tr HB hb
  clear hb
  refine hK _ _ HK.out ?_
  clear hK K
  refine Sch.tn_q rfl rfl rfl (fun K hK => ?_)
  go_big_quiet_op
  first | refine hK _ ?_ | refine ⟨_, fun _ _ => rfl, hK _ ?_⟩
  clear hK K
  refine Sch.tn_q rfl rfl rfl (fun K hK => ?_)
  go_big_quiet_op
  first | refine hK _ ?_ | refine ⟨_, fun _ _ => rfl, hK _ ?_⟩
  clear hK K
  refine Sch.tn_load _ _ _ _ _ rfl rfl hT0 rfl (by exact KN.a) rfl ?_
  simp only [Act.put, List.setIfInBounds_toArray, List.set_cons_zero, List.set_cons_succ]
  refine Sch.tn_load _ _ _ _ _ rfl rfl hT0 rfl (by exact KN.z) rfl ?_
  simp only [Act.put, List.setIfInBounds_toArray, List.set_cons_zero, List.set_cons_succ]
  refine Sch.tn_e rfl hT0 (fun K hK => ?_)
  go_wp2_with fail
  refine (of0_any 1 1 1 98 _).mono ?_
  rintro e w26 ⟨rfl, hb⟩
  replace HK := Lib.hid (HK.out.keep hb)
  replace HB := bel_tr HB hb
  clear hb
  refine hK _ _ HK.out ?_
  clear hK K
  refine Sch.tn_e rfl hT0 (fun K hK => ?_)
  go_wp2_with fail
  refine (merges_any nA ((1, 1), (0, 0), 1, 98) zeroN 15 (by decide) _).mono ?_
  rintro e w27 ⟨rfl, hb⟩
  replace HK := Lib.hid (HK.out.keep hb)
  replace HB := bel_tr HB hb
  clear hb
  refine hK _ _ HK.out ?_
  clear hK K
  refine Sch.tn_q rfl rfl hT0 (fun K hK => ?_)
  go_big_quiet_op
  first | refine hK _ ?_ | refine ⟨_, fun _ _ => rfl, hK _ ?_⟩
  clear hK K
  refine Sch.tn_q rfl rfl rfl (fun K hK => ?_)
  go_big_quiet_op
  first | refine hK _ ?_ | refine ⟨_, fun _ _ => rfl, hK _ ?_⟩
  clear hK K
  refine Sch.tn_q rfl rfl rfl (fun K hK => ?_)
  go_big_quiet_op
  first | refine hK _ ?_ | refine ⟨_, fun _ _ => rfl, hK _ ?_⟩
  clear hK K
  refine Sch.tn_load _ _ _ _ _ rfl rfl hT0 rfl (by exact KN.d) rfl ?_
  simp only [Act.put, List.setIfInBounds_toArray, List.set_cons_zero, List.set_cons_succ]
  refine Sch.tn_load _ _ _ _ _ rfl rfl hT0 rfl (by exact KN.z) rfl ?_
  simp only [Act.put, List.setIfInBounds_toArray, List.set_cons_zero, List.set_cons_succ]
  refine Sch.tn_e rfl hT0 (fun K hK => ?_)
  go_wp2_with fail
  refine (of0_any 1 1 2 0 _).mono ?_
  rintro e w28 ⟨rfl, hb⟩
  replace HK := Lib.hid (HK.out.keep hb)
  replace HB := bel_tr HB hb
  clear hb
  refine hK _ _ HK.out ?_
  clear hK K
  refine Sch.tn_e rfl hT0 (fun K hK => ?_)
  go_wp2_with fail
  refine (merges_any nD ((1, 1), (0, 0), 2, 0) zeroN 15 (by decide) _).mono ?_
  rintro e w29 ⟨rfl, hb⟩
  replace HK := Lib.hid (HK.out.keep hb)
  replace HB := bel_tr HB hb
  clear hb
  refine hK _ _ HK.out ?_
  clear hK K
  refine Sch.tn_q rfl rfl hT0 (fun K hK => ?_)
  go_big_quiet_op
  first | refine hK _ ?_ | refine ⟨_, fun _ _ => rfl, hK _ ?_⟩
  clear hK K
  refine Sch.tn_q rfl rfl rfl (fun K hK => ?_)
  go_big_quiet_op
  first | refine hK _ ?_ | refine ⟨_, fun _ _ => rfl, hK _ ?_⟩
  clear hK K
  refine Sch.tn_q rfl rfl rfl (fun K hK => ?_)
  go_big_quiet_op
  first | refine hK _ ?_ | refine ⟨_, fun _ _ => rfl, hK _ ?_⟩
  clear hK K
  refine Sch.tn_load _ _ _ _ _ rfl rfl hT0 rfl (by exact KN.d) rfl ?_
  simp only [Act.put, List.setIfInBounds_toArray, List.set_cons_zero, List.set_cons_succ]
  refine Sch.tn_load _ _ _ _ _ rfl rfl hT0 rfl (by exact KN.z) rfl ?_
  simp only [Act.put, List.setIfInBounds_toArray, List.set_cons_zero, List.set_cons_succ]
  refine Sch.tn_e rfl hT0 (fun K hK => ?_)
  go_wp2_with fail
  refine (of0_any 1 1 0 0 _).mono ?_
  rintro e w30 ⟨rfl, hb⟩
  replace HK := Lib.hid (HK.out.keep hb)
  replace HB := bel_tr HB hb
  clear hb
  refine hK _ _ HK.out ?_
  clear hK K
  refine Sch.tn_e rfl hT0 (fun K hK => ?_)
  go_wp2_with fail
  refine (merges_any nD ((1, 1), (0, 0), 0, 0) zeroN 2 (by decide) _).mono ?_
  rintro e w31 ⟨rfl, hb⟩
  replace HK := Lib.hid (HK.out.keep hb)
  replace HB := bel_tr HB hb
  clear hb
  refine hK _ _ HK.out ?_
  clear hK K
  refine Sch.tn_q rfl rfl hT0 (fun K hK => ?_)
  go_big_quiet_op
  first | refine hK _ ?_ | refine ⟨_, fun _ _ => rfl, hK _ ?_⟩
  clear hK K
  refine Sch.tn_q rfl rfl rfl (fun K hK => ?_)
  go_big_quiet_op
  first | refine hK _ ?_ | refine ⟨_, fun _ _ => rfl, hK _ ?_⟩
  clear hK K
  refine Sch.tn_n ?_
  go_wp2_with fail
  refine (ofP_any 3 7 2 5 65 (by decide) _).mono ?_
  rintro e w32 ⟨rfl, hb⟩
  replace HK := Lib.hid (HK.out.keep hb)
  replace HB := bel_tr HB hb
  clear hb
  go_wp2_with fail
  refine (parses_yes [51, 46, 55, 32, 49, 46, 50, 32, 53, 32, 85, 43, 48, 48, 52, 49] ((3, 7), (1, 2), 5, 65) (valid_vn.1 (by decide)) ex_txt1 _ (HL.out.below HB.out) (by decide)).mono ?_
  rintro e w33 ⟨rfl, hb⟩
  replace HK := Lib.hid (HK.out.keep hb)
  replace HB := bel_tr HB hb
  clear hb
  go_wp2_with fail
  refine (of0_any 3 7 5 0 _).mono ?_
  rintro e w34 ⟨rfl, hb⟩
  replace HK := Lib.hid (HK.out.keep hb)
  replace HB := bel_tr HB hb
  clear hb
  go_wp2_with fail
  refine (parses_yes [51, 46, 55, 32, 114, 111, 111, 116, 32, 53, 32, 45] ((3, 7), (0, 0), 5, 0) (valid_vn.1 (by decide)) ex_txt2 _ (HL.out.below HB.out) (by decide)).mono ?_
  rintro e w35 ⟨rfl, hb⟩
  replace HK := Lib.hid (HK.out.keep hb)
  replace HB := bel_tr HB hb
  clear hb
  obtain ⟨k0, k1, k2, k3, k4, k5⟩ := HK.out.2.2
  simp only [zeroN] at k0 k1 k2 k3 k4 k5
  go_wp2_with fail
  refine (parses_no [114, 111, 111, 116, 32, 114, 111, 111, 116, 32, 53, 32, 45] ex_no1 _ (HL.out.below HB.out) (by decide)).mono ?_
  rintro e w36 ⟨rfl, hb⟩
  replace HK := Lib.hid (HK.out.keep hb)
  replace HB := bel_tr HB hb
  clear hb
  clear k0 k1 k2 k3 k4 k5
  obtain ⟨k0, k1, k2, k3, k4, k5⟩ := HK.out.2.2
  simp only [zeroN] at k0 k1 k2 k3 k4 k5
  go_wp2_with fail
  refine (parses_no [51, 46, 55, 32, 114, 111, 111, 116, 32, 48, 53, 32, 45] ex_no2 _ (HL.out.below HB.out) (by decide)).mono ?_
  rintro e w37 ⟨rfl, hb⟩
  replace HK := Lib.hid (HK.out.keep hb)
  replace HB := bel_tr HB hb
  clear hb
  clear k0 k1 k2 k3 k4 k5
  obtain ⟨k0, k1, k2, k3, k4, k5⟩ := HK.out.2.2
  simp only [zeroN] at k0 k1 k2 k3 k4 k5
  go_wp2_with fail
  refine (parses_no [51, 46, 55, 32, 114, 111, 111, 116, 32, 53] ex_no3 _ (HL.out.below HB.out) (by decide)).mono ?_
  rintro e w38 ⟨rfl, hb⟩
  replace HK := Lib.hid (HK.out.keep hb)
  replace HB := bel_tr HB hb
  clear hb
  clear k0 k1 k2 k3 k4 k5
  go_wp2_with fail
  go_ret
  exact ⟨rfl, HB.out⟩
end Go.Proofs.YtmmcnpcijeahcabGreatDoor.Nd
