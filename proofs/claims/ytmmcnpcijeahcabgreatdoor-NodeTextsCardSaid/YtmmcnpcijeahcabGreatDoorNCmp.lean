/-
  Before, agree and Merge of the program.
-/
import Derived.Test.YtmmcnpcijeahcabGreatDoorNVal
namespace Go.Proofs.YtmmcnpcijeahcabGreatDoor.Nd
set_option linter.unusedVariables false
open Go.RowKit V Go.Sort D
attribute [local irreducible] Sch.heldN Sch.stepV Sch.stepE

/-- Two boxes with a node each. -/
def N2 (g h : Nat) (a b : Nt) (w : World) : Prop := Nb w g a ∧ Nb w h b
theorem N2.keep {g h : Nat} {a b : Nt} {w w' : World} (k : N2 g h a b w) (hb : Below w.heap.size w w') : N2 g h a b w' := ⟨k.1.keep hb, k.2.keep hb⟩
theorem N2.new (a b : Nt) (w : World) : N2 w.heap.size (w.heap.size + 1) a b ((w.alloc (.cells (nc a) 25)).alloc (.cells (nc b) 25)) := by
  have h := Nb.new (w.alloc (.cells (nc a) 25)) b
  rw [show (w.alloc (.cells (nc a) 25)).heap.size = w.heap.size + 1 by simp] at h
  exact ⟨(Nb.new w a).keep (bel_box _ _), h⟩
section
variable {g h : Nat} {a b : Nt}
theorem N2.na : ∀ w, N2 g h a b w → (Instr.loadAt 25 (.pointer (some ⟨g, 0, none⟩))).run Tryz.prog w = .ok (nv a) w := fun w k => k.1.load
theorem N2.nb : ∀ w, N2 g h a b w → (Instr.loadAt 25 (.pointer (some ⟨h, 0, none⟩))).run Tryz.prog w = .ok (nv b) w := fun w k => k.2.load
theorem N2.ad : ∀ w, N2 g h a b w → (Instr.loadAt 23 (.pointer (some ⟨g, 0, none⟩))).run Tryz.prog w = .ok (dv a.1) w := fun w k => k.1.loadD
theorem N2.bd : ∀ w, N2 g h a b w → (Instr.loadAt 23 (.pointer (some ⟨h, 0, none⟩))).run Tryz.prog w = .ok (dv b.1) w := fun w k => k.2.loadD
theorem N2.ap : ∀ w, N2 g h a b w → (Instr.loadAt 23 (.pointer (some ⟨g, 2, none⟩))).run Tryz.prog w = .ok (dv a.2.1) w := fun w k => k.1.loadP
theorem N2.bp : ∀ w, N2 g h a b w → (Instr.loadAt 23 (.pointer (some ⟨h, 2, none⟩))).run Tryz.prog w = .ok (dv b.2.1) w := fun w k => k.2.loadP
theorem N2.at : ∀ w, N2 g h a b w → (Instr.loadAt 3 (.pointer (some ⟨g, 4, none⟩))).run Tryz.prog w = .ok (.int .i64 a.2.2.1) w := fun w k => k.1.loadT
theorem N2.bt : ∀ w, N2 g h a b w → (Instr.loadAt 3 (.pointer (some ⟨h, 4, none⟩))).run Tryz.prog w = .ok (.int .i64 b.2.2.1) w := fun w k => k.2.loadT
theorem N2.ar : ∀ w, N2 g h a b w → (Instr.loadAt 21 (.pointer (some ⟨g, 5, none⟩))).run Tryz.prog w = .ok (.int .i32 a.2.2.2) w := fun w k => k.1.loadR
theorem N2.br : ∀ w, N2 g h a b w → (Instr.loadAt 21 (.pointer (some ⟨h, 5, none⟩))).run Tryz.prog w = .ok (.int .i32 b.2.2.2) w := fun w k => k.2.loadR
end
theorem bel_two (w : World) (a b : Nt) : Below w.heap.size w ((w.alloc (.cells (nc a) 25)).alloc (.cells (nc b) 25)) := (bel_box _ _).alloc (by simp) _

theorem cmpI_pos {x y : Int} : 0 < cmpI x y ↔ y < x := by
  unfold cmpI
  split
  · constructor <;> intro h <;> omega
  · split <;> constructor <;> intro h <;> omega
theorem cmpI_zero {x y : Int} : cmpI x y = 0 ↔ x = y := by
  unfold cmpI
  split
  · constructor <;> intro h <;> omega
  · split <;> constructor <;> intro h <;> omega
theorem before_cmp (a b : Nt) : decide (0 < (if cmpI a.2.2.1 b.2.2.1 = 0 then cmpR a.1 b.1 else cmpI a.2.2.1 b.2.2.1)) = beforeN a b := by
  rw [Bool.eq_iff_iff, decide_eq_true_eq, before_iff]
  by_cases h : a.2.2.1 = b.2.2.1
  · rw [if_pos (cmpI_zero.2 h), cmp_pos]
    exact ⟨fun k => .inr ⟨h, k⟩, fun k => k.elim (fun k => absurd h (by omega)) (·.2)⟩
  · rw [if_neg (fun e => h (cmpI_zero.1 e)), cmpI_pos]
    exact ⟨.inl, fun k => k.elim id fun k => absurd k.1 h⟩

set_option maxRecDepth 100000 in
set_option maxHeartbeats 2000000 in
theorem before_any (a b : Nt) (w : World) : Calls Tryz.prog 14 #[nv a, nv b] w fun e w' => e = .returned (.bool (beforeN a b)) ∧ Below w.heap.size w w' := by
  have HO := Lib.hid (fun (g : Nat) (w : World) h0 h1 => or_int (cmpI a.2.2.1 b.2.2.1) (cmpR a.1 b.1) g w h0 h1)
  have HE := Lib.hid (before_cmp a b)
  have HC := Lib.hid (fun (w : World) => cmp_int a.2.2.1 b.2.2.1 w)
  have HD := Lib.hid (fun (w : World) => compare_any a.1 b.1 w)
  have HK := Lib.hid (N2.new a b w)
  have HB := Lib.hid (bel_two w a b)
  generalize (if cmpI a.2.2.1 b.2.2.1 = 0 then cmpR a.1 b.1 else cmpI a.2.2.1 b.2.2.1) = z at *
  generalize cmpI a.2.2.1 b.2.2.1 = ci at *
  generalize cmpR a.1 b.1 = cr at *
  generalize beforeN a b = R at *
  go_enter Tryz.func14, Tryz.ntmps14
  go_wp2_with fail
  generalize (w.alloc (.cells (nc a) 25)).alloc (.cells (nc b) 25) = w1 at *
  replace HK := Lib.hid (HK.out.keep ((Below.refl w1.heap.size w1).drew))
  replace HB := Lib.hid HB.out.drew
  refine Sch.wp_region_tn (N2 w.heap.size (w.heap.size + 1) a b) (.val 0 (.val 1 (.val 2 (.val 3 (.val 5 (.val 6 (.val 7 (.val 8 (.one 4 (.one 9 (.one 10 (.one 11 (.val 12 (.val 13 .done)))))))))))))) (by kernel_rfl) (by kernel_rfl) HK.out ?_
  repeat (first
    | (refine Sch.tn_q rfl rfl rfl (fun K hK => ?_); go_big_quiet_op; (first | refine hK _ ?_ | refine ⟨_, fun _ _ => rfl, hK _ ?_⟩); clear hK K)
    | (refine Sch.tn_chk _ _ _ rfl rfl rfl rfl rfl ?_; simp only [Act.put, List.setIfInBounds_toArray, List.set_cons_zero, List.set_cons_succ])
    | (refine Sch.tn_load _ _ _ _ _ rfl rfl rfl rfl (by first | exact N2.at | exact N2.bt | exact N2.ad | exact N2.bd) rfl ?_; simp only [Act.put, List.setIfInBounds_toArray, List.set_cons_zero, List.set_cons_succ]))
  generalize w1.drew = w2 at *
  refine Sch.tn_e rfl rfl (fun K hK => ?_)
  go_wp2_with fail
  refine (HC.out _).mono ?_
  rintro e w3 ⟨rfl, rfl⟩
  refine hK _ _ HK.out ?_
  clear hK K
  refine Sch.tn_e rfl rfl (fun K hK => ?_)
  go_wp2_with fail
  refine (HD.out _).mono ?_
  rintro e w4 ⟨rfl, hl⟩
  have hb := hl.bel
  replace HK := Lib.hid (HK.out.keep hb)
  replace HB := bel_tr HB hb
  clear hl hb
  refine hK _ _ HK.out ?_
  clear hK K
  refine Sch.tn_e rfl rfl (fun K hK => ?_)
  go_wp2_with fail
  have hb := bel_box w4 (.cells #[.int .i64 ci, .int .i64 cr] 3)
  replace HK := Lib.hid (HK.out.keep hb)
  replace HB := bel_tr HB hb
  clear hb
  refine hK _ _ HK.out ?_
  clear hK K
  refine Sch.tn_e rfl rfl (fun K hK => ?_)
  go_wp2_with fail
  refine (HO.out w4.heap.size _ (by go_simp) (by go_simp)).mono ?_
  rintro e w5 ⟨rfl, rfl⟩
  refine hK _ _ HK.out ?_
  clear hK K
  repeat (first
    | (refine Sch.tn_q rfl rfl rfl (fun K hK => ?_); go_big_quiet_op; (first | refine hK _ ?_ | refine ⟨_, fun _ _ => rfl, hK _ ?_⟩); clear hK K)
    | (refine Sch.tn_chk _ _ _ rfl rfl rfl rfl rfl ?_; simp only [Act.put, List.setIfInBounds_toArray, List.set_cons_zero, List.set_cons_succ]))
  refine Sch.tn_n ?_
  go_wp2_with fail
  go_ret
  exact ⟨by rw [← HE.out]; rfl, HB.out⟩
end Go.Proofs.YtmmcnpcijeahcabGreatDoor.Nd
