/-
  The reference's Text.
-/
import Derived.Test.YtmmcnpcijeahcabGreatDoorNTxt
import Derived.Test.YtmmcnpcijeahcabGreatDoorRRefG
namespace Go.Proofs.YtmmcnpcijeahcabGreatDoor.Nd
set_option linter.unusedVariables false
open Go.RowKit V Go.Sort D
attribute [local irreducible] Sch.heldN Sch.stepV Sch.stepE

theorem Nb.sd {g : Nat} {n : Nt} : ∀ w, NbS g n w → (Instr.loadAt 23 (.pointer (some ⟨g, 0, none⟩))).run Tryz.prog w = .ok (dv n.1) w := fun w k => Nb.loadD k
theorem Nb.sp {g : Nat} {n : Nt} : ∀ w, NbS g n w → (Instr.loadAt 23 (.pointer (some ⟨g, 2, none⟩))).run Tryz.prog w = .ok (dv n.2.1) w := fun w k => Nb.loadP k
theorem Nb.st {g : Nat} {n : Nt} : ∀ w, NbS g n w → (Instr.loadAt 3 (.pointer (some ⟨g, 4, none⟩))).run Tryz.prog w = .ok (.int .i64 n.2.2.1) w := fun w k => Nb.loadT k
theorem str_txt (a b c d : List UInt8) : ((⟨a.toArray⟩ : ByteArray) ++ ⟨#[32]⟩ ++ ⟨b.toArray⟩ ++ ⟨#[32]⟩ ++ ⟨c.toArray⟩ ++ ⟨#[32]⟩ ++ ⟨d.toArray⟩ : ByteArray) = ⟨(a ++ 32 :: (b ++ 32 :: (c ++ 32 :: d))).toArray⟩ := by
  show ((⟨a.toArray⟩ : ByteArray) ++ ⟨[32].toArray⟩ ++ ⟨b.toArray⟩ ++ ⟨[32].toArray⟩ ++ ⟨c.toArray⟩ ++ ⟨[32].toArray⟩ ++ ⟨d.toArray⟩ : ByteArray) = _
  rw [G.str_app, G.str_app, G.str_app, G.str_app, G.str_app, G.str_app]
  simp

set_option maxRecDepth 100000 in
set_option maxHeartbeats 4000000 in
theorem textN_ref (n : Nt) (hn : VN n) (w : World) : Calls Tryz.prog 19 #[nv n] w fun e w' => e = .returned (.string ⟨(txtN n).toArray⟩) ∧ Below w.heap.size w w' := by
  have HK := Lib.hid (Nb.new w n)
  have HB := Lib.hid (bel_box w (.cells (nc n) 25))
  obtain ⟨h1, h2, h3, h4, h5, h6⟩ := hn
  obtain ⟨a, ha⟩ : ∃ a : Nat, n.2.2.1 = (a : Int) := ⟨n.2.2.1.toNat, by omega⟩
  have HT1 := Lib.hid (fun w => text_ref n.1 (.inl h1) w)
  have HT2 := Lib.hid (fun w => text_ref n.2.1 h2 w)
  have HDg := Lib.hid (fun w => digits_ref a (by omega) w)
  rw [← ha] at HDg
  have l1 := txt_len (.inl h1)
  have l2 := txt_len h2
  have l3 := dig_len64 (n := a) (by omega)
  have l4 := rune_len h6
  have HE : Hid (txtN n = txtD n.1 ++ 32 :: (txtD n.2.1 ++ 32 :: (Lib.decDigits a ++ 32 :: runeT n.2.2.2))) := by show _ = _; unfold txtN; rw [ha, Int.toNat_natCast]
  have HRu : Hid (n.2.2.2 = 0 ∧ runeT n.2.2.2 = [45] ∨ n.2.2.2 ≠ 0 ∧ ∀ w, Calls Tryz.prog 36 #[.int .i32 n.2.2.2] w fun e w' => e = .returned (.string ⟨(runeT n.2.2.2).toArray⟩) ∧ w = w') := by
    rcases h6 with h | h
    · exact .inl ⟨h, by rw [h]; rfl⟩
    · obtain ⟨m, hm, hv, hm2, hm0⟩ := vld_nat h
      refine .inr ⟨by omega, fun w => ?_⟩
      have := R.rname_any m hm2 w
      rw [show runeT n.2.2.2 = R.nm m by unfold runeT; rw [hm, if_neg (by omega), Int.toNat_natCast], hm]
      exact this
  clear h1 h2 h3 h4 h5 h6 ha
  generalize txtN n = T at *
  generalize txtD n.1 = A at *
  generalize txtD n.2.1 = P at *
  generalize Lib.decDigits a = D at *
  generalize runeT n.2.2.2 = Q at *
  clear a
  rcases HRu.out with ⟨hz, rfl⟩ | ⟨hz, hnm⟩
  · have hq : (n.2.2.2 != 0) = false := by rw [bne_eq_false_iff_eq]; exact hz
    clear hz
    go_enter Tryz.func19, Tryz.ntmps19
    go_wp2_with fail
    generalize w.alloc (.cells (nc n) 25) = w3 at *
    replace HK := Lib.hid (HK.out.keep ((Below.refl w3.heap.size w3).drew))
    replace HB := Lib.hid HB.out.drew
    refine Sch.wp_region_tn (NbS w.heap.size n) (.val 0 (.val 1 (.val 4 (.val 5 (.val 9 (.val 10 (.val 14 (.one 2 (.val 3 (.one 6 (.val 7 (.val 8 (.one 11 (.val 12 (.val 13 (.val 15 (.val 16 .done))))))))))))))))) (by kernel_rfl) (by kernel_rfl) HK.out ?_
    repeat (first
      | (refine Sch.tn_q rfl rfl rfl (fun K hK => ?_); go_big_quiet_op; (first | refine hK _ ?_ | refine ⟨_, fun _ _ => rfl, hK _ ?_⟩); clear hK K)
      | (refine Sch.tn_chk _ _ _ rfl rfl rfl rfl rfl ?_; simp only [Act.put, List.setIfInBounds_toArray, List.set_cons_zero, List.set_cons_succ])
      | (refine Sch.tn_load _ _ _ _ _ rfl rfl rfl rfl (by first | exact Nb.sd | exact Nb.sp | exact Nb.st) rfl ?_; simp only [Act.put, List.setIfInBounds_toArray, List.set_cons_zero, List.set_cons_succ]))
    generalize w3.drew = w4 at *
    refine Sch.tn_e rfl rfl (fun K hK => ?_)
    go_wp2_with fail
    refine (HT1.out _).mono ?_
    rintro e w5 ⟨rfl, hb⟩
    replace HK := Lib.hid (HK.out.keep hb)
    replace HB := bel_tr HB hb
    clear hb
    refine hK _ _ HK.out ?_
    clear hK K
    repeat (first
      | (refine Sch.tn_q rfl rfl rfl (fun K hK => ?_); go_big_quiet_op; (first | refine hK _ ?_ | refine ⟨_, fun _ _ => rfl, hK _ ?_⟩); clear hK K)
      | (refine Sch.tn_chk _ _ _ rfl rfl rfl rfl rfl ?_; simp only [Act.put, List.setIfInBounds_toArray, List.set_cons_zero, List.set_cons_succ]))
    refine Sch.tn_e rfl rfl (fun K hK => ?_)
    go_wp2_with fail
    refine (HT2.out _).mono ?_
    rintro e w6 ⟨rfl, hb⟩
    replace HK := Lib.hid (HK.out.keep hb)
    replace HB := bel_tr HB hb
    clear hb
    refine hK _ _ HK.out ?_
    clear hK K
    repeat (first
      | (refine Sch.tn_q rfl rfl rfl (fun K hK => ?_); go_big_quiet_op; (first | refine hK _ ?_ | refine ⟨_, fun _ _ => rfl, hK _ ?_⟩); clear hK K)
      | (refine Sch.tn_chk _ _ _ rfl rfl rfl rfl rfl ?_; simp only [Act.put, List.setIfInBounds_toArray, List.set_cons_zero, List.set_cons_succ]))
    refine Sch.tn_e rfl rfl (fun K hK => ?_)
    go_wp2_with fail
    refine (HDg.out _).mono ?_
    rintro e w7 ⟨rfl, rfl⟩
    refine hK _ _ HK.out ?_
    clear hK K
    repeat (first
      | (refine Sch.tn_q rfl rfl rfl (fun K hK => ?_); go_big_quiet_op; (first | refine hK _ ?_ | refine ⟨_, fun _ _ => rfl, hK _ ?_⟩); clear hK K)
      | (refine Sch.tn_chk _ _ _ rfl rfl rfl rfl rfl ?_; simp only [Act.put, List.setIfInBounds_toArray, List.set_cons_zero, List.set_cons_succ]))
    refine Sch.tn_n ?_
    go_wp2_with fail
    go_ret
    refine ⟨?_, HB.out⟩
    rw [HE.out]
    exact congrArg (fun s => Ending.returned (Value.string s)) (str_txt A P D [45])
  · have hq : (n.2.2.2 != 0) = true := by rw [bne_iff_ne]; exact hz
    have HNm := Lib.hid hnm
    clear hz hnm
    obtain ⟨k0, k1, k2, k3, k4, k5⟩ := HK.out
    go_enter Tryz.func19, Tryz.ntmps19
    go_wp2_with fail
    refine (HNm.out _).mono ?_
    rintro e w3 ⟨rfl, rfl⟩
    clear k0 k1 k2 k3 k4 k5
    go_wp2_with fail
    generalize w.alloc (.cells (nc n) 25) = w3 at *
    replace HK := Lib.hid (HK.out.keep ((Below.refl w3.heap.size w3).drew))
    replace HB := Lib.hid HB.out.drew
    refine Sch.wp_region_tn (NbS w.heap.size n) (.val 0 (.val 1 (.val 4 (.val 5 (.val 9 (.val 10 (.val 14 (.one 2 (.val 3 (.one 6 (.val 7 (.val 8 (.one 11 (.val 12 (.val 13 (.val 15 (.val 16 .done))))))))))))))))) (by kernel_rfl) (by kernel_rfl) HK.out ?_
    repeat (first
      | (refine Sch.tn_q rfl rfl rfl (fun K hK => ?_); go_big_quiet_op; (first | refine hK _ ?_ | refine ⟨_, fun _ _ => rfl, hK _ ?_⟩); clear hK K)
      | (refine Sch.tn_chk _ _ _ rfl rfl rfl rfl rfl ?_; simp only [Act.put, List.setIfInBounds_toArray, List.set_cons_zero, List.set_cons_succ])
      | (refine Sch.tn_load _ _ _ _ _ rfl rfl rfl rfl (by first | exact Nb.sd | exact Nb.sp | exact Nb.st) rfl ?_; simp only [Act.put, List.setIfInBounds_toArray, List.set_cons_zero, List.set_cons_succ]))
    generalize w3.drew = w4 at *
    refine Sch.tn_e rfl rfl (fun K hK => ?_)
    go_wp2_with fail
    refine (HT1.out _).mono ?_
    rintro e w5 ⟨rfl, hb⟩
    replace HK := Lib.hid (HK.out.keep hb)
    replace HB := bel_tr HB hb
    clear hb
    refine hK _ _ HK.out ?_
    clear hK K
    repeat (first
      | (refine Sch.tn_q rfl rfl rfl (fun K hK => ?_); go_big_quiet_op; (first | refine hK _ ?_ | refine ⟨_, fun _ _ => rfl, hK _ ?_⟩); clear hK K)
      | (refine Sch.tn_chk _ _ _ rfl rfl rfl rfl rfl ?_; simp only [Act.put, List.setIfInBounds_toArray, List.set_cons_zero, List.set_cons_succ]))
    refine Sch.tn_e rfl rfl (fun K hK => ?_)
    go_wp2_with fail
    refine (HT2.out _).mono ?_
    rintro e w6 ⟨rfl, hb⟩
    replace HK := Lib.hid (HK.out.keep hb)
    replace HB := bel_tr HB hb
    clear hb
    refine hK _ _ HK.out ?_
    clear hK K
    repeat (first
      | (refine Sch.tn_q rfl rfl rfl (fun K hK => ?_); go_big_quiet_op; (first | refine hK _ ?_ | refine ⟨_, fun _ _ => rfl, hK _ ?_⟩); clear hK K)
      | (refine Sch.tn_chk _ _ _ rfl rfl rfl rfl rfl ?_; simp only [Act.put, List.setIfInBounds_toArray, List.set_cons_zero, List.set_cons_succ]))
    refine Sch.tn_e rfl rfl (fun K hK => ?_)
    go_wp2_with fail
    refine (HDg.out _).mono ?_
    rintro e w7 ⟨rfl, rfl⟩
    refine hK _ _ HK.out ?_
    clear hK K
    repeat (first
      | (refine Sch.tn_q rfl rfl rfl (fun K hK => ?_); go_big_quiet_op; (first | refine hK _ ?_ | refine ⟨_, fun _ _ => rfl, hK _ ?_⟩); clear hK K)
      | (refine Sch.tn_chk _ _ _ rfl rfl rfl rfl rfl ?_; simp only [Act.put, List.setIfInBounds_toArray, List.set_cons_zero, List.set_cons_succ]))
    refine Sch.tn_n ?_
    go_wp2_with fail
    go_ret
    refine ⟨?_, HB.out⟩
    rw [HE.out]
    exact congrArg (fun s => Ending.returned (Value.string s)) (str_txt A P D Q)
end Go.Proofs.YtmmcnpcijeahcabGreatDoor.Nd
