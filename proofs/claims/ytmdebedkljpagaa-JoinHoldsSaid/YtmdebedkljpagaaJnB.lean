/-
  Layer 14's reference: which states are stores, the place of a dot, equal states.
-/
import Derived.Test.YtmdebedkljpagaaJnA
namespace Go.Proofs.Ytmdebedkljpagaa.Jn
set_option linter.unusedVariables false
open Go.RowKit V Go.Sort D Nd Qs
attribute [local irreducible] Sch.heldN Sch.stepV Sch.stepE

theorem ixS (b o n c k : Nat) (z : Int) (hz : z = (k : Int)) (hk : k < n) : ∀ w, (Instr.indexAt 23 (.slice (some ⟨b, o, none⟩) n c) (.int .i64 z)).run Try.prog w = .ok (.pointer (some ⟨b, o + k * 6, none⟩)) w := by
  intro w
  subst hz
  have hk2 : (k : Int) < (n : Int) := by omega
  go_simp
/-- Two nodes of a row. -/
def Vr (b o o2 : Nat) (n m : Nt) (w : World) : Prop := Na w b o n ∧ Na w b o2 m
section
variable {b o o2 : Nat} {n m : Nt}
theorem Vr.keep {w w' : World} (h : Vr b o o2 n m w) (hb : Below w.heap.size w w') : Vr b o o2 n m w' := ⟨h.1.keep hb, h.2.keep hb⟩
theorem Vr.ln : ∀ w, Vr b o o2 n m w → (Instr.loadAt 44 (.pointer (some ⟨b, o, none⟩))).run Try.prog w = .ok (nv n) w := fun w k => k.1.load
theorem Vr.ld : ∀ w, Vr b o o2 n m w → (Instr.loadAt 42 (.pointer (some ⟨b, o, none⟩))).run Try.prog w = .ok (dv n.1) w := fun w k => k.1.loadD
theorem Vr.lm : ∀ w, Vr b o o2 n m w → (Instr.loadAt 42 (.pointer (some ⟨b, o2, none⟩))).run Try.prog w = .ok (dv m.1) w := fun w k => k.2.loadD
end

set_option maxRecDepth 100000 in
set_option maxHeartbeats 2000000 in
theorem store_ref (l : List Nt) (a : Option Addr) (c : Nat) (w : World) (hx : RowN w a l) (hlx : l.length ≤ 1000000) :
    Calls Try.prog 12 #[.slice a l.length c] w fun e w' => e = .returned (.bool (validS l)) ∧ Below w.heap.size w w' := by
  have HX := Lib.hid hx
  have hli : (l.length : Int) ≤ 1000000 := by omega
  clear hx hlx
  go_enter Try.func12, Try.ntmps12
  go_wp2_with fail
  go_loopw [3] (fun i wr => ∃ k : Nat, k ≤ l.length ∧ i = .int .i64 (k : Int) ∧ Hid (Below w.heap.size w wr) ∧ Hid (∀ j (hj : j < l.length), j < k → validN l[j] = true) ∧ Hid (∀ j (hj : j + 1 < l.length), j + 1 < k → less l[j].1 l[j + 1].1 = true)) (fun i _ => l.length - (intOf i).toNat)
  case atStart => exact ⟨0, Nat.zero_le _, rfl, Below.refl _ _, fun j _ h => by omega, fun j _ h => by omega⟩
  case round =>
    obtain ⟨k, hk, rfl, hh, HV, HI⟩ := hrel
    by_cases hlt : k < l.length
    · have hi0 : (k : Int) < (l.length : Int) := by omega
      obtain ⟨b1, o1, rfl, hna⟩ := na_of (HX.out.keep hh.out) k hlt
      have HG := Lib.hid (fun w => isNode_ref l[k] w)
      obtain ⟨q, hq⟩ : ∃ q, q = l[k] := ⟨_, rfl⟩
      rw [← hq] at hna HG
      have HQ := Lib.hid hq
      clear hq
      have HK0 : Hid (Vr b1 (o1 + k * 6) (o1 + k * 6) q q wr.drew) := ⟨hna.keep (Below.refl _ _).drew, hna.keep (Below.refl _ _).drew⟩
      have HB0 : Hid (Below w.heap.size w wr.drew) := hh.out.drew
      obtain ⟨h0, h1, h2, h3, h4, h5⟩ := hna
      rcases hb : validN q with _ | _
      · have HN : Hid (validS l = false) := validS_no1 k hlt (by rw [← HQ.out]; exact hb)
        rw [hb] at HG
        clear hb
        obtain ⟨⟨q1, q2⟩, ⟨q3, q4⟩, q5, q6⟩ := q
        go_wp2_with fail
        refine Sch.wp_region_tn (Vr b1 (o1 + k * 6) (o1 + k * 6) ((q1, q2), (q3, q4), q5, q6) ((q1, q2), (q3, q4), q5, q6)) (.val 0 (.val 1 (.val 2 (.val 3 (.one 4 (.val 5 (.val 6 (.val 7 (.val 8 (.val 9 (.val 10 (.val 11 (.val 12 (.val 13 (.val 14 (.val 15 (.val 16 (.val 17 (.val 18 (.val 19 (.val 20 (.one 21 (.val 22 (.val 23 (.val 24 .done))))))))))))))))))))))))) (by kernel_rfl) (by kernel_rfl) HK0.out ?_
        repeat (first
          | (refine Sch.tn_q rfl rfl rfl (fun K hK => ?_); go_big_quiet_op; (first | refine hK _ ?_ | refine ⟨_, fun _ _ => rfl, hK _ ?_⟩); clear hK K)
          | (refine Sch.tn_chk _ _ _ rfl rfl rfl rfl rfl ?_; simp only [Act.put, List.setIfInBounds_toArray, List.set_cons_zero, List.set_cons_succ])
          | (refine Sch.tn_load _ _ _ _ _ rfl rfl rfl rfl (by first | exact Vr.ln) rfl ?_; simp only [Act.put, List.setIfInBounds_toArray, List.set_cons_zero, List.set_cons_succ]))
        generalize wr.drew = w2 at *
        refine Sch.tn_e rfl rfl (fun K hK => ?_)
        go_wp2_with fail
        refine (HG.out _).mono ?_
        rintro e w3 ⟨rfl, hb⟩
        have HB := bel_tr HB0 hb
        refine hK _ _ (HK0.out.keep hb) ?_
        clear hK K
        repeat (first
          | (refine Sch.tn_q rfl rfl rfl (fun K hK => ?_); go_big_quiet_op; (first | refine hK _ ?_ | refine ⟨_, fun _ _ => rfl, hK _ ?_⟩); clear hK K)
          | (refine Sch.tn_chk _ _ _ rfl rfl rfl rfl rfl ?_; simp only [Act.put, List.setIfInBounds_toArray, List.set_cons_zero, List.set_cons_succ])
          | (refine Sch.tn_load _ _ _ _ _ rfl rfl rfl rfl (by first | exact Vr.ln) rfl ?_; simp only [Act.put, List.setIfInBounds_toArray, List.set_cons_zero, List.set_cons_succ])
          | (refine Sch.tn_s _ rfl rfl rfl ?_; simp only [Act.put, List.setIfInBounds_toArray, List.set_cons_zero, List.set_cons_succ])
          | (refine Sch.tn_se _ rfl rfl rfl ?_; simp only [Act.put, List.setIfInBounds_toArray, List.set_cons_zero, List.set_cons_succ]))
        refine Sch.tn_n ?_
        go_wp2_with fail
        go_ret
        exact ⟨by rw [HN.out]; rfl, HB.out⟩
      · have HVq : Hid (∀ j (hj : j < l.length), j < k + 1 → validN l[j] = true) := fun j hj hjk => by
          by_cases hjk2 : j = k
          · subst hjk2; rw [← HQ.out]; exact hb
          · exact HV.out j hj (by omega)
        rw [hb] at HG
        clear hb
        rcases k with _ | k
        · simp only [Nat.zero_mul, Nat.add_zero] at h0 h1 h2 h3 h4 h5 HK0
          obtain ⟨⟨q1, q2⟩, ⟨q3, q4⟩, q5, q6⟩ := q
          go_wp2_with fail
          refine Sch.wp_region_tn (Vr b1 o1 o1 ((q1, q2), (q3, q4), q5, q6) ((q1, q2), (q3, q4), q5, q6)) (.val 0 (.val 1 (.val 2 (.val 3 (.one 4 (.val 5 (.val 6 (.val 7 (.val 8 (.val 9 (.val 10 (.val 11 (.val 12 (.val 13 (.val 14 (.val 15 (.val 16 (.val 17 (.val 18 (.val 19 (.val 20 (.one 21 (.val 22 (.val 23 (.val 24 .done))))))))))))))))))))))))) (by kernel_rfl) (by kernel_rfl) HK0.out ?_
          repeat (first
            | (refine Sch.tn_q rfl rfl rfl (fun K hK => ?_); go_big_quiet_op; (first | refine hK _ ?_ | refine ⟨_, fun _ _ => rfl, hK _ ?_⟩); clear hK K)
            | (refine Sch.tn_chk _ _ _ rfl rfl rfl rfl rfl ?_; simp only [Act.put, List.setIfInBounds_toArray, List.set_cons_zero, List.set_cons_succ])
            | (refine Sch.tn_load _ _ _ _ _ rfl rfl rfl rfl (by first | exact Vr.ln) rfl ?_; simp only [Act.put, List.setIfInBounds_toArray, List.set_cons_zero, List.set_cons_succ]))
          generalize wr.drew = w2 at *
          refine Sch.tn_e rfl rfl (fun K hK => ?_)
          go_wp2_with fail
          refine (HG.out _).mono ?_
          rintro e w3 ⟨rfl, hb⟩
          have HB := bel_tr HB0 hb
          refine hK _ _ (HK0.out.keep hb) ?_
          clear hK K
          repeat (first
            | (refine Sch.tn_q rfl rfl rfl (fun K hK => ?_); go_big_quiet_op; (first | refine hK _ ?_ | refine ⟨_, fun _ _ => rfl, hK _ ?_⟩); clear hK K)
            | (refine Sch.tn_chk _ _ _ rfl rfl rfl rfl rfl ?_; simp only [Act.put, List.setIfInBounds_toArray, List.set_cons_zero, List.set_cons_succ])
            | (refine Sch.tn_load _ _ _ _ _ rfl rfl rfl rfl (by first | exact Vr.ln) rfl ?_; simp only [Act.put, List.setIfInBounds_toArray, List.set_cons_zero, List.set_cons_succ])
            | (refine Sch.tn_s _ rfl rfl rfl ?_; simp only [Act.put, List.setIfInBounds_toArray, List.set_cons_zero, List.set_cons_succ])
            | (refine Sch.tn_se _ rfl rfl rfl ?_; simp only [Act.put, List.setIfInBounds_toArray, List.set_cons_zero, List.set_cons_succ]))
          refine Sch.tn_n ?_
          go_wp2_with fail
          go_roundw
          case rel => exact ⟨1, by omega, by go_num, HB, HVq, fun j hj hjk => by omega⟩
          case measure => simp [intOf]; omega
        · have hlt0 : k < l.length := by omega
          have hi3 : (0 : Int) < (k : Int) + 1 := by omega
          have hg : decide ((0 : Int) < (k : Int) + 1) = true := by rw [decide_eq_true_eq]; exact hi3
          obtain ⟨b2, o2, e2, hnb⟩ := na_of (HX.out.keep hh.out) k hlt0
          cases e2
          obtain ⟨p, hp⟩ : ∃ p, p = l[k] := ⟨_, rfl⟩
          rw [← hp] at hnb
          have HP := Lib.hid hp
          clear hp
          have hwr := wrap_nat (show (k : Int) ≤ 140737488355328 by omega)
          have hix := ixS b1 o1 l.length c k (k : Int) rfl hlt0
          have hix2 := ixS b1 o1 l.length c (k + 1) ((k : Int) + 1) (by omega) hlt
          have HK : Hid (Vr b1 (o1 + (k + 1) * 6) (o1 + k * 6) q p wr.drew) := ⟨HK0.out.1, hnb.keep (Below.refl _ _).drew⟩
          have HC := Lib.hid (fun w => before_ref p.1 q.1 w)
          clear HK0 hnb
          obtain ⟨t, ht⟩ : ∃ t, t = less p.1 q.1 := ⟨_, rfl⟩
          rw [← ht] at HC
          have HT := Lib.hid ht
          clear ht
          obtain ⟨⟨q1, q2⟩, ⟨q3, q4⟩, q5, q6⟩ := q
          go_wp2_with fail
          refine Sch.wp_region_tn (Vr b1 (o1 + (k + 1) * 6) (o1 + k * 6) ((q1, q2), (q3, q4), q5, q6) p) (.val 0 (.val 1 (.val 2 (.val 3 (.one 4 (.val 5 (.val 6 (.val 7 (.val 8 (.val 9 (.val 10 (.val 11 (.val 12 (.val 13 (.val 14 (.val 15 (.val 16 (.val 17 (.val 18 (.val 19 (.val 20 (.one 21 (.val 22 (.val 23 (.val 24 .done))))))))))))))))))))))))) (by kernel_rfl) (by kernel_rfl) HK.out ?_
          repeat (first
            | (refine Sch.tn_q rfl rfl rfl (fun K hK => ?_); go_big_quiet_op; (first | refine hK _ ?_ | refine ⟨_, fun _ _ => rfl, hK _ ?_⟩); clear hK K)
            | (refine Sch.tn_chk _ _ _ rfl rfl rfl rfl rfl ?_; simp only [Act.put, List.setIfInBounds_toArray, List.set_cons_zero, List.set_cons_succ])
            | (refine Sch.tn_load _ _ _ _ _ rfl rfl rfl rfl (by first | exact Vr.ln | exact Vr.ld | exact Vr.lm) rfl ?_; simp only [Act.put, List.setIfInBounds_toArray, List.set_cons_zero, List.set_cons_succ]))
          generalize wr.drew = w2 at *
          refine Sch.tn_e rfl rfl (fun K hK => ?_)
          go_wp2_with fail
          refine (HG.out _).mono ?_
          rintro e w3 ⟨rfl, hb⟩
          have HB := bel_tr HB0 hb
          replace HK := Lib.hid (HK.out.keep hb)
          clear hb
          refine hK _ _ HK.out ?_
          clear hK K
          repeat (first
            | (refine Sch.tn_q rfl rfl rfl (fun K hK => ?_); go_big_quiet_op; (first | refine hK _ ?_ | refine ⟨_, fun _ _ => rfl, hK _ ?_⟩); clear hK K)
            | (refine Sch.tn_chk _ _ _ rfl rfl rfl rfl rfl ?_; simp only [Act.put, List.setIfInBounds_toArray, List.set_cons_zero, List.set_cons_succ])
            | (refine Sch.tn_load _ _ _ _ _ rfl rfl rfl rfl (by first | exact Vr.ln | exact Vr.ld | exact Vr.lm) rfl ?_; simp only [Act.put, List.setIfInBounds_toArray, List.set_cons_zero, List.set_cons_succ])
            | (refine Sch.tn_s _ rfl rfl rfl ?_; simp only [Act.put, List.setIfInBounds_toArray, List.set_cons_zero, List.set_cons_succ])
            | (refine Sch.tn_se _ rfl rfl rfl ?_; simp only [Act.put, List.setIfInBounds_toArray, List.set_cons_zero, List.set_cons_succ]))
          refine Sch.tn_e rfl rfl (fun K hK => ?_)
          go_wp2_with fail
          refine (HC.out _).mono ?_
          rintro e w4 ⟨rfl, hl⟩
          have hb := hl.bel
          clear hl
          replace HB := bel_tr HB hb
          replace HK := Lib.hid (HK.out.keep hb)
          clear hb
          refine hK _ _ HK.out ?_
          clear hK K
          rcases t with _ | _
          · have HN : Hid (validS l = false) := validS_no2 k hlt (by rw [← HP.out, ← HQ.out]; exact HT.out.symm)
            repeat (first
              | (refine Sch.tn_q rfl rfl rfl (fun K hK => ?_); go_big_quiet_op; (first | refine hK _ ?_ | refine ⟨_, fun _ _ => rfl, hK _ ?_⟩); clear hK K)
              | (refine Sch.tn_chk _ _ _ rfl rfl rfl rfl rfl ?_; simp only [Act.put, List.setIfInBounds_toArray, List.set_cons_zero, List.set_cons_succ])
              | (refine Sch.tn_load _ _ _ _ _ rfl rfl rfl rfl (by first | exact Vr.ln | exact Vr.ld | exact Vr.lm) rfl ?_; simp only [Act.put, List.setIfInBounds_toArray, List.set_cons_zero, List.set_cons_succ])
              | (refine Sch.tn_s _ rfl rfl rfl ?_; simp only [Act.put, List.setIfInBounds_toArray, List.set_cons_zero, List.set_cons_succ])
              | (refine Sch.tn_se _ rfl rfl rfl ?_; simp only [Act.put, List.setIfInBounds_toArray, List.set_cons_zero, List.set_cons_succ]))
            refine Sch.tn_n ?_
            go_wp2_with fail
            go_ret
            exact ⟨by rw [HN.out]; rfl, HB.out⟩
          · skip
            repeat (first
              | (refine Sch.tn_q rfl rfl rfl (fun K hK => ?_); go_big_quiet_op; (first | refine hK _ ?_ | refine ⟨_, fun _ _ => rfl, hK _ ?_⟩); clear hK K)
              | (refine Sch.tn_chk _ _ _ rfl rfl rfl rfl rfl ?_; simp only [Act.put, List.setIfInBounds_toArray, List.set_cons_zero, List.set_cons_succ])
              | (refine Sch.tn_load _ _ _ _ _ rfl rfl rfl rfl (by first | exact Vr.ln | exact Vr.ld | exact Vr.lm) rfl ?_; simp only [Act.put, List.setIfInBounds_toArray, List.set_cons_zero, List.set_cons_succ])
              | (refine Sch.tn_s _ rfl rfl rfl ?_; simp only [Act.put, List.setIfInBounds_toArray, List.set_cons_zero, List.set_cons_succ])
              | (refine Sch.tn_se _ rfl rfl rfl ?_; simp only [Act.put, List.setIfInBounds_toArray, List.set_cons_zero, List.set_cons_succ]))
            refine Sch.tn_n ?_
            go_wp2_with fail
            go_roundw
            case rel =>
              refine ⟨k + 2, by omega, by go_num, HB, HVq, fun j hj hjk => ?_⟩
              by_cases hjk2 : j = k
              · subst hjk2; rw [← HP.out, ← HQ.out]; exact HT.out.symm
              · exact HI.out j hj (by omega)
            case measure => simp [intOf]; omega
    · have HN : Hid (validS l = true) := validS_at (fun j hj => HV.out j hj (by omega)) (fun j hj => HI.out j hj (by omega))
      have hend : ¬ (k : Int) < (l.length : Int) := by omega
      go_wp2_with fail
      go_ret
      exact ⟨by rw [HN.out]; rfl, hh.out⟩

theorem eqlD_yes (p : Dt) : ∀ w, Sem.run Try.prog (binOp .eql 42 (.agg #[.int .i64 p.1, .int .i64 p.2]) (.agg #[.int .i64 p.1, .int .i64 p.2])) w = .ok (.bool true) w := fun w => by
  have := eql_dot p p w
  rwa [decide_eq_true rfl] at this
set_option maxRecDepth 100000 in
set_option maxHeartbeats 2000000 in
theorem find_ref (l : List Nt) (d : Dt) (a : Option Addr) (c : Nat) (w : World) (hx : RowN w a l) (hlx : l.length ≤ 1000000) :
    Calls Try.prog 24 #[.slice a l.length c, dv d] w fun e w' => e = .returned (.int .i64 (idxS l d)) ∧ Below w.heap.size w w' := by
  have HB := Lib.hid (bel_box w (.cells #[.int .i64 d.1, .int .i64 d.2] 42))
  have HX := Lib.hid (hx.keep HB.out)
  have HD : Hid ((w.alloc (.cells #[.int .i64 d.1, .int .i64 d.2] 42)).cell? ⟨w.heap.size, 0, none⟩ = some (.int .i64 d.1) ∧ (w.alloc (.cells #[.int .i64 d.1, .int .i64 d.2] 42)).cell? ⟨w.heap.size, 1, none⟩ = some (.int .i64 d.2)) := by
    constructor <;> go_simp
  have hli : (l.length : Int) ≤ 1000000 := by omega
  have hRe : Hid (∀ k (hk : k < l.length), (∀ j (hj : j < l.length), j < k → l[j].1 ≠ d) → l[k].1 = d → idxS l d = (k : Int)) := fun k hk h e => (idx_hit hk h e).1
  have hRn : Hid ((∀ j (hj : j < l.length), l[j].1 ≠ d) → idxS l d = -1) := fun h => (idx_none h).1
  clear hx hlx
  generalize idxS l d = R at *
  obtain ⟨d1, d2⟩ := d
  go_enter Try.func24, Try.ntmps24
  go_wp2_with fail
  generalize w.alloc (.cells #[.int .i64 d1, .int .i64 d2] 42) = w1 at *
  go_loopw [5] (fun i wr => ∃ k : Nat, k ≤ l.length ∧ i = .int .i64 (k : Int) ∧ Hid (Below w1.heap.size w1 wr) ∧ Hid (∀ j (hj : j < l.length), j < k → l[j].1 ≠ (d1, d2))) (fun i _ => l.length - (intOf i).toNat)
  case atStart => exact ⟨0, Nat.zero_le _, rfl, Below.refl _ _, fun j _ h => by omega⟩
  case round =>
    obtain ⟨k, hk, rfl, hh, HV⟩ := hrel
    by_cases hlt : k < l.length
    · have hi0 : (k : Int) < (l.length : Int) := by omega
      obtain ⟨b1, o1, rfl, hna⟩ := na_of (HX.out.keep hh.out) k hlt
      have HRk := Lib.hid (hRe.out k hlt HV.out)
      have HVk : Hid (l[k].1 ≠ (d1, d2) → ∀ j (hj : j < l.length), j < k + 1 → l[j].1 ≠ (d1, d2)) := fun h j hj hjk => by
        by_cases e : j = k
        · subst e; exact h
        · exact HV.out j hj (by omega)
      obtain ⟨q, hq⟩ : ∃ q, q = l[k] := ⟨_, rfl⟩
      rw [← hq] at hna HRk HVk
      clear hq
      obtain ⟨n0, n1, -⟩ := hna
      have x0 := (hh.out.cell (p := ⟨w.heap.size, 0, none⟩) (lt_of_cell HD.out.1)).trans HD.out.1
      have x1 := (hh.out.cell (p := ⟨w.heap.size, 1, none⟩) (lt_of_cell HD.out.2)).trans HD.out.2
      by_cases e : q.1 = (d1, d2)
      · have hr := HRk.out e
        have hE := eqlD_yes (d1, d2)
        obtain ⟨⟨q1, q2⟩, q3⟩ := q
        simp only [Prod.mk.injEq] at e
        obtain ⟨rfl, rfl⟩ := e
        clear HRk HVk hRe hRn
        have HR := Lib.hid hr
        clear hr
        go_wp2_with fail
        go_quiet (fail)
        go_wp2_with fail
        go_ret
        exact ⟨by rw [HR.out]; rfl, bel_drewN (HB.out.trans (hh.out.mono HB.out.size)) _⟩
      · have hE := eql_no e
        have HVn := Lib.hid (HVk.out e)
        clear HRk HVk e
        obtain ⟨⟨q1, q2⟩, q3⟩ := q
        go_wp2_with fail
        go_quiet (fail)
        go_wp2_with fail
        go_roundw
        case rel => exact ⟨k + 1, by omega, by go_num, bel_drewN hh.out _, HVn⟩
        case measure => simp [intOf]; omega
    · have hend : ¬ (k : Int) < (l.length : Int) := by omega
      have HR := Lib.hid (hRn.out fun j hj => HV.out j hj (by omega))
      go_wp2_with fail
      go_ret
      exact ⟨by rw [HR.out]; rfl, HB.out.trans (hh.out.mono HB.out.size)⟩

set_option maxRecDepth 100000 in
set_option maxHeartbeats 1000000 in
theorem same_ref (xs ys : List Nt) (a b : Option Addr) (c d : Nat) (w : World) (hx : RowN w a xs) (hy : RowN w b ys) (hlx : xs.length ≤ 1000000) (hly : ys.length ≤ 1000000) :
    Calls Try.prog 14 #[.slice a xs.length c, .slice b ys.length d] w fun e w' => e = .returned (.bool (decide (xs = ys))) ∧ Below w.heap.size w w' := by
  have HX := Lib.hid hx
  have HY := Lib.hid hy
  have hli : (xs.length : Int) ≤ 1000000 := by omega
  clear hx hy hlx hly
  by_cases hl : xs.length = ys.length
  · have q0 : ((xs.length : Int) != (ys.length : Int)) = false := by rw [bne_eq_false_iff_eq]; omega
    go_enter Try.func14, Try.ntmps14
    go_wp2_with fail
    go_loopw [5] (fun i wr => ∃ k : Nat, k ≤ xs.length ∧ i = .int .i64 k ∧ Hid (Below w.heap.size w wr) ∧ Hid (∀ j (hj : j < xs.length) (hj2 : j < ys.length), j < k → xs[j] = ys[j])) (fun i _ => xs.length - (intOf i).toNat)
    case atStart => exact ⟨0, Nat.zero_le _, rfl, Below.refl _ _, fun j _ _ h => by omega⟩
    case round =>
      obtain ⟨k, hk, rfl, hh, HV⟩ := hrel
      by_cases hlt : k < xs.length
      · have hlt2 : k < ys.length := by omega
        obtain ⟨b1, o1, rfl, p0, p1, p2, p3, p4, p5⟩ := (HX.out.keep hh.out).get k hlt
        obtain ⟨b2, o2, rfl, q0, q1, q2, q3, q4, q5⟩ := (HY.out.keep hh.out).get k hlt2
        obtain ⟨p, hp⟩ : ∃ p, p = xs[k] := ⟨_, rfl⟩
        obtain ⟨q, hq⟩ : ∃ q, q = ys[k] := ⟨_, rfl⟩
        rw [← hp] at p0 p1 p2 p3 p4 p5
        rw [← hq] at q0 q1 q2 q3 q4 q5
        have HP := Lib.hid hp
        have HQ := Lib.hid hq
        clear hp hq
        by_cases hpq : p = q
        · subst hpq
          have hne := neqN_no p
          go_wp2_with fail
          go_quiet (fail)
          go_wp2_with fail
          go_roundw
          case rel =>
            refine ⟨k + 1, by omega, by go_num, bel_drewN hh.out _, fun j hj hj2 hjk => ?_⟩
            by_cases hjk2 : j = k
            · subst hjk2; rw [← HP.out, ← HQ.out]
            · exact HV.out j hj hj2 (by omega)
          case measure => simp [intOf]; omega
        · have hne := neqN_yes hpq
          have HN : Hid (decide (xs = ys) = false) := by
            show _ = _
            rw [decide_eq_false_iff_not]
            rintro rfl
            exact hpq (by rw [HP.out, HQ.out])
          clear hpq
          go_wp2_with fail
          go_quiet (fail)
          go_wp2_with fail
          go_ret
          exact ⟨by rw [HN.out]; rfl, bel_drewN hh.out _⟩
      · obtain rfl : k = xs.length := by omega
        have HN : Hid (decide (xs = ys) = true) := by
          show _ = _
          rw [decide_eq_true_eq]
          exact List.ext_getElem hl fun j hj hj2 => HV.out j hj hj2 hj
        have hend : ¬ (xs.length : Int) < (xs.length : Int) := by omega
        go_wp2_with fail
        go_ret
        exact ⟨by rw [HN.out]; rfl, hh.out⟩
  · have q0 : ((xs.length : Int) != (ys.length : Int)) = true := by rw [bne_iff_ne]; omega
    have HN : Hid (decide (xs = ys) = false) := by
      show _ = _
      rw [decide_eq_false_iff_not]
      rintro rfl
      exact hl rfl
    go_enter Try.func14, Try.ntmps14
    go_wp2_with fail
    go_ret
    exact ⟨by rw [HN.out]; rfl, Below.refl _ _⟩


end Go.Proofs.Ytmdebedkljpagaa.Jn
