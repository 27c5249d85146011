/-
  The reference: Same at faults, Flaw, Faults, Whole.
-/
import Derived.Test.YtodjccfaipkpfaaGreatDoorMFoH
import Derived.Test.YtodjccfaipkpfaaGreatDoorQRfF

section
namespace Go.Proofs.YtodjccfaipkpfaaGreatDoor.Fo
set_option linter.unusedVariables false
open Go.RowKit V Go.Sort D Nd Qs Wk
attribute [local irreducible] Sch.heldN Sch.stepV Sch.stepE

theorem eqlT (x y : Dt) (w : World) : Sem.run Tryz.prog (binOp .eql 44 (dv x) (dv y)) w = .ok (.bool (decide (x = y))) w := by
  have u3 := Tryz.underlying3
  have a3 := Tryz.isAgg3
  have z3 := Tryz.sizeOf3
  have u4 := Tryz.underlying42
  have a4 := Tryz.isAgg42
  have z4 := Tryz.sizeOf42
  have hS : Tryz.prog.underlying 44 = some (.struct (Tryz.prog.fieldsOf 44)) := by kernel_rfl
  have hp : Tryz.prog.stoodInHeld 44 = false := by kernel_rfl
  rw [run_eql_struct, show (10000 : Nat) = 9999 + 1 from rfl, run_equalIn_agg w 9999 44 _ _ hS hp]
  simp only [Program.fieldsOf, Tryz.underlying44]
  go_simp
  obtain ⟨x1, x2⟩ := x
  obtain ⟨y1, y2⟩ := y
  by_cases h1 : x1 = y1 <;> by_cases h2 : x2 = y2 <;> simp [h1, h2]
theorem neqT (x y : Dt) (w : World) : Sem.run Tryz.prog (binOp .neq 44 (dv x) (dv y)) w = .ok (.bool (!decide (x = y))) w := by
  have u3 := Tryz.underlying3
  have a3 := Tryz.isAgg3
  have z3 := Tryz.sizeOf3
  have u4 := Tryz.underlying42
  have a4 := Tryz.isAgg42
  have z4 := Tryz.sizeOf42
  have hS : Tryz.prog.underlying 44 = some (.struct (Tryz.prog.fieldsOf 44)) := by kernel_rfl
  have hp : Tryz.prog.stoodInHeld 44 = false := by kernel_rfl
  rw [run_neq_struct, show (10000 : Nat) = 9999 + 1 from rfl, run_equalIn_agg w 9999 44 _ _ hS hp]
  simp only [Program.fieldsOf, Tryz.underlying44]
  go_simp
  obtain ⟨x1, x2⟩ := x
  obtain ⟨y1, y2⟩ := y
  by_cases h1 : x1 = y1 <;> by_cases h2 : x2 = y2 <;> simp [h1, h2]
theorem neqT_yes {p q : Dt} (h : ¬ p = q) : ∀ w, Sem.run Tryz.prog (binOp .neq 44 (.agg #[.int .i64 p.1, .int .i64 p.2]) (.agg #[.int .i64 q.1, .int .i64 q.2])) w = .ok (.bool true) w := by
  intro w
  have := neqT p q w
  rwa [decide_eq_false h] at this
theorem eqlT_yes (p : Dt) : ∀ w, Sem.run Tryz.prog (binOp .eql 44 (dv p) (dv p)) w = .ok (.bool true) w := fun w => by
  have := eqlT p p w
  rwa [decide_eq_true rfl] at this
set_option maxRecDepth 100000 in
set_option maxHeartbeats 1000000 in
theorem sameT_ref (xs ys : List Dt) (a b : Option Addr) (c d : Nat) (w : World) (hx : RowD w a xs) (hy : RowD w b ys) (hlx : xs.length ≤ 140737488355328) (hly : ys.length ≤ 140737488355328) :
    Calls Tryz.prog 31 #[.slice a xs.length c, .slice b ys.length d] w fun e w' => e = .returned (.bool (decide (xs = ys))) ∧ Below w.heap.size w w' := by
  have HX := Lib.hid hx
  have HY := Lib.hid hy
  have hli : (xs.length : Int) ≤ 140737488355328 := by omega
  clear hx hy hlx hly
  by_cases hl : xs.length = ys.length
  · have q0 : ((xs.length : Int) != (ys.length : Int)) = false := by rw [bne_eq_false_iff_eq]; omega
    go_enter Tryz.func31, Tryz.ntmps31
    go_wp2_with fail
    go_loopw [5] (fun i wr => ∃ k : Nat, k ≤ xs.length ∧ i = .int .i64 k ∧ Hid (Below w.heap.size w wr) ∧ Hid (∀ j (hj : j < xs.length) (hj2 : j < ys.length), j < k → xs[j] = ys[j])) (fun i _ => xs.length - (intOf i).toNat)
    case atStart => exact ⟨0, Nat.zero_le _, rfl, Below.refl _ _, fun j _ _ h => by omega⟩
    case round =>
      obtain ⟨k, hk, rfl, hh, HV⟩ := hrel
      by_cases hlt : k < xs.length
      · have hlt2 : k < ys.length := by omega
        obtain ⟨b1, o1, rfl, p0, p1⟩ := HX.out.get hh.out k hlt
        obtain ⟨b2, o2, rfl, q1, q2⟩ := HY.out.get hh.out k hlt2
        obtain ⟨p, hp⟩ : ∃ p, p = xs[k] := ⟨_, rfl⟩
        obtain ⟨q, hq⟩ : ∃ q, q = ys[k] := ⟨_, rfl⟩
        rw [← hp] at p0 p1
        rw [← hq] at q1 q2
        have HP := Lib.hid hp
        have HQ := Lib.hid hq
        clear hp hq
        by_cases hpq : p = q
        · subst hpq
          go_wp2_with fail
          go_quiet (fail)
          go_wp2_with fail
          go_roundw
          case rel =>
            refine ⟨k + 1, by omega, by go_num, bel_drewN hh.out _, fun j hj hj2 hjk => ?_⟩
            by_cases hjk2 : j = k
            · subst hjk2; rw [← HP.out, ← HQ.out]
            · exact HV.out j hj hj2 (by omega)
          case measure => simp [intOf]; omega
        · have hne := neqT_yes hpq
          have HN : Hid (decide (xs = ys) = false) := by
            show _ = _
            rw [decide_eq_false_iff_not]
            rintro rfl
            exact hpq (by rw [HP.out, HQ.out])
          clear hpq
          go_wp2_with fail
          go_quiet (fail)
          go_wp2_with fail
          go_ret
          exact ⟨by rw [HN.out]; rfl, bel_drewN hh.out _⟩
      · obtain rfl : k = xs.length := by omega
        have HN : Hid (decide (xs = ys) = true) := by
          show _ = _
          rw [decide_eq_true_eq]
          exact List.ext_getElem hl fun j hj hj2 => HV.out j hj hj2 hj
        have hend : ¬ (xs.length : Int) < (xs.length : Int) := by omega
        go_wp2_with fail
        go_ret
        exact ⟨by rw [HN.out]; rfl, hh.out⟩
  · have q0 : ((xs.length : Int) != (ys.length : Int)) = true := by rw [bne_iff_ne]; omega
    have HN : Hid (decide (xs = ys) = false) := by
      show _ = _
      rw [decide_eq_false_iff_not]
      rintro rfl
      exact hl rfl
    go_enter Tryz.func31, Tryz.ntmps31
    go_wp2_with fail
    go_ret
    exact ⟨by rw [HN.out]; rfl, Below.refl _ _⟩


/-- The node's box, the node before. -/
def Fr (g2 b1 o1 : Nat) (q p : Nt) (w : World) : Prop := Nb w g2 q ∧ Na w b1 o1 p
section
variable {g2 b1 o1 : Nat} {q p : Nt}
theorem Fr.keep {w w' : World} (h : Fr g2 b1 o1 q p w) (hb : Below w.heap.size w w') : Fr g2 b1 o1 q p w' := ⟨h.1.keep hb, h.2.keep hb⟩
theorem Fr.lm : ∀ w, Fr g2 b1 o1 q p w → (Instr.loadAt 33 (.pointer (some ⟨b1, o1, none⟩))).run Tryz.prog w = .ok (dv p.1) w := fun w k => k.2.loadD
theorem Fr.ln : ∀ w, Fr g2 b1 o1 q p w → (Instr.loadAt 33 (.pointer (some ⟨g2, 0, none⟩))).run Tryz.prog w = .ok (dv q.1) w := fun w k => by
  obtain ⟨h0, h1, -⟩ := k.1
  go_simp
end
theorem idx_eq {l : List Nt} {d : Dt} : (idxS l d = -1 ∧ atS l d = none) ∨ ∃ k, ∃ hk : k < l.length, idxS l d = (k : Int) ∧ atS l d = some l[k] := by
  rcases h : idxG l d with _ | i
  · exact .inl ⟨(idx_none fun j hj => at_none.1 (idxG_none.1 h) _ (List.getElem_mem hj)).1, idxG_none.1 h⟩
  · unfold idxG at h
    obtain ⟨k, h1, rfl⟩ := Option.map_eq_some_iff.1 h
    obtain ⟨hk, h2, h3⟩ := List.findIdx?_eq_some_iff_getElem.1 h1
    obtain ⟨e1, e2⟩ := idx_hit hk (fun j hj hjk => by simpa using h3 j hjk) (by simpa using h2)
    exact .inr ⟨k, hk, e1, e2⟩

end Go.Proofs.YtodjccfaipkpfaaGreatDoor.Fo
end

/-
  What the laws call.
-/
section
namespace Go.Proofs.YtodjccfaipkpfaaGreatDoor.Fo
set_option linter.unusedVariables false
open Go.RowKit V Go.Sort D Nd Qs Wk
attribute [local irreducible] Sch.heldN Sch.stepV Sch.stepE

/-- A fault in a box. -/
def Bf (g : Nat) (t : Dt) (w : World) : Prop := w.cell? ⟨g, 0, none⟩ = some (.int .i64 t.1) ∧ w.cell? ⟨g, 1, none⟩ = some (.int .i64 t.2)
theorem Bf.keep {g : Nat} {t : Dt} {w w' : World} (h : Bf g t w) (hb : Below w.heap.size w w') : Bf g t w' :=
  ⟨(hb.cell (p := ⟨g, 0, none⟩) (lt_of_cell h.1)).trans h.1, (hb.cell (p := ⟨g, 1, none⟩) (lt_of_cell h.2)).trans h.2⟩
theorem Bf.l {g : Nat} {t : Dt} : ∀ w, Bf g t w → (Instr.loadAt 44 (.pointer (some ⟨g, 0, none⟩))).run Tryz.prog w = .ok (dv t) w := fun w h => by
  obtain ⟨h0, h1⟩ := h
  go_simp

set_option maxRecDepth 100000 in
set_option maxHeartbeats 4000000 in
theorem faults_true (l : List Nt) (T : List Dt) (a b : Option Addr) (c d : Nat) (w : World) (h : faultS l = T) (hf : ∀ x ∈ l, fitN x) (hx : RowN w a l) (hy : RowD w b T) (hlx : l.length ≤ 1000000) :
    Calls Tryz.prog 16 #[.slice a l.length c, .slice b T.length d] w fun e w' => e = .returned (.bool true) ∧ Below w.heap.size w w' := by
  have HFa := Lib.hid (fun w h => faults_any l a c w hf h hlx)
  have HFi := Lib.hid (fun w h => first_any l a c w hf h hlx)
  have HWe := Lib.hid (fun w h => well_any l a c w hf h hlx)
  have HTl : Hid (T.length ≤ 1000000) := by show _ ≤ _; rw [← h]; have := fault_len l l.length; unfold faultS; omega
  have HSa := Lib.hid (fun a2 c2 w h1 h2 => sameT_ref T T a2 b c2 d w h1 h2 (by have := HTl.out; omega) (by have := HTl.out; omega))
  have hfs : firstS l = T.headD (-1, 0) := by unfold firstS; rw [h]
  have hwl := well_len l
  rw [h] at hwl HFa
  rw [hfs] at HFi
  rw [hwl] at HWe
  rw [decide_eq_true rfl] at HSa
  have hE := eqlT_yes (T.headD (-1, 0))
  have hb1 := bel_box w (.cells #[.int .i64 (-1), .int .i64 0] 44)
  have HX := Lib.hid (hx.keep hb1)
  have HY := Lib.hid (hy.keep hb1)
  have HX0 := Lib.hid hx
  have HY0 := Lib.hid hy
  have HB := Lib.hid hb1
  have HBf : Hid (Bf w.heap.size (-1, 0) (w.alloc (.cells #[.int .i64 (-1), .int .i64 0] 44))) := by constructor <;> go_simp
  have HFr : Hid (∀ o, (w.alloc (.cells #[.int .i64 (-1), .int .i64 0] 44)).frozen? ⟨w.heap.size, o, none⟩ = false) := fun o => by go_simp
  clear h hf hx hy hlx hfs hwl hb1
  go_enter Tryz.func16, Tryz.ntmps16
  go_upto_region 2 with fail
  generalize hw1 : (w.alloc (.cells #[.int .i64 (-1), .int .i64 0] 44)) = w1 at *
  clear hw1
  rcases T with _ | ⟨t, T⟩
  · simp only [List.headD_nil, List.length_nil] at *
    clear HFr
    go_wp2_with fail
    have hd := (Below.refl w1.heap.size w1).drew
    replace HB := bel_tr HB hd
    replace HX := Lib.hid (HX.out.keep hd)
    replace HY := Lib.hid (HY.out.keep hd)
    replace HBf := Lib.hid (HBf.out.keep hd)
    clear hd
    refine Sch.wp_region_tn (Bf w.heap.size (-1, 0)) (.val 0 (.val 2 (.one 1 (.one 3 (.val 4 (.val 5 (.val 7 (.one 6 (.val 8 (.val 9 (.val 10 (.val 11 (.val 13 (.val 14 (.val 15 (.one 12 (.val 16 (.val 17 (.val 18 .done))))))))))))))))))) (by kernel_rfl) (by kernel_rfl) HBf.out ?_
    repeat (first
      | (refine Sch.tn_q rfl rfl rfl (fun K hK => ?_); go_big_quiet_op; (first | refine hK _ ?_ | refine ⟨_, fun _ _ => rfl, hK _ ?_⟩); clear hK K)
      | (refine Sch.tn_chk _ _ _ rfl rfl rfl rfl rfl ?_; simp only [Act.put, List.setIfInBounds_toArray, List.set_cons_zero, List.set_cons_succ])
      | (refine Sch.tn_load _ _ _ _ _ rfl rfl rfl rfl (by first | exact Bf.l) rfl ?_; simp only [Act.put, List.setIfInBounds_toArray, List.set_cons_zero, List.set_cons_succ]))
    generalize w1.drew = w2 at *
    refine Sch.tn_e rfl rfl (fun K hK => ?_)
    go_wp2_with fail
    refine (HFa.out _ HX.out).mono ?_
    rintro e w3 ⟨v3, rfl, ho, hb⟩
    obtain ⟨a3, c3, rfl, hr3, -⟩ := OD.row ho
    have HR3 := Lib.hid hr3
    replace HB := bel_tr HB hb
    replace HX := Lib.hid (HX.out.keep hb)
    replace HY := Lib.hid (HY.out.keep hb)
    replace HBf := Lib.hid (HBf.out.keep hb)
    clear hb ho hr3 HFa
    refine hK _ _ HBf.out ?_
    clear hK K
    repeat (first
      | (refine Sch.tn_q rfl rfl rfl (fun K hK => ?_); go_big_quiet_op; (first | refine hK _ ?_ | refine ⟨_, fun _ _ => rfl, hK _ ?_⟩); clear hK K)
      | (refine Sch.tn_chk _ _ _ rfl rfl rfl rfl rfl ?_; simp only [Act.put, List.setIfInBounds_toArray, List.set_cons_zero, List.set_cons_succ])
      | (refine Sch.tn_load _ _ _ _ _ rfl rfl rfl rfl (by first | exact Bf.l) rfl ?_; simp only [Act.put, List.setIfInBounds_toArray, List.set_cons_zero, List.set_cons_succ]))
    refine Sch.tn_e rfl rfl (fun K hK => ?_)
    go_wp2_with fail
    refine (HSa.out a3 c3 _ HR3.out HY.out).mono ?_
    rintro e w4 ⟨rfl, hb⟩
    replace HB := bel_tr HB hb
    replace HX := Lib.hid (HX.out.keep hb)
    replace HY := Lib.hid (HY.out.keep hb)
    replace HBf := Lib.hid (HBf.out.keep hb)
    clear hb HSa HR3
    refine hK _ _ HBf.out ?_
    clear hK K
    repeat (first
      | (refine Sch.tn_q rfl rfl rfl (fun K hK => ?_); go_big_quiet_op; (first | refine hK _ ?_ | refine ⟨_, fun _ _ => rfl, hK _ ?_⟩); clear hK K)
      | (refine Sch.tn_chk _ _ _ rfl rfl rfl rfl rfl ?_; simp only [Act.put, List.setIfInBounds_toArray, List.set_cons_zero, List.set_cons_succ])
      | (refine Sch.tn_load _ _ _ _ _ rfl rfl rfl rfl (by first | exact Bf.l) rfl ?_; simp only [Act.put, List.setIfInBounds_toArray, List.set_cons_zero, List.set_cons_succ]))
    refine Sch.tn_e rfl rfl (fun K hK => ?_)
    go_wp2_with fail
    refine (HFi.out _ HX.out).mono ?_
    rintro e w5 ⟨rfl, hb⟩
    replace HB := bel_tr HB hb
    replace HX := Lib.hid (HX.out.keep hb)
    replace HY := Lib.hid (HY.out.keep hb)
    replace HBf := Lib.hid (HBf.out.keep hb)
    clear hb HFi
    refine hK _ _ HBf.out ?_
    clear hK K
    repeat (first
      | (refine Sch.tn_q rfl rfl rfl (fun K hK => ?_); go_big_quiet_op; (first | refine hK _ ?_ | refine ⟨_, fun _ _ => rfl, hK _ ?_⟩); clear hK K)
      | (refine Sch.tn_chk _ _ _ rfl rfl rfl rfl rfl ?_; simp only [Act.put, List.setIfInBounds_toArray, List.set_cons_zero, List.set_cons_succ])
      | (refine Sch.tn_load _ _ _ _ _ rfl rfl rfl rfl (by first | exact Bf.l) rfl ?_; simp only [Act.put, List.setIfInBounds_toArray, List.set_cons_zero, List.set_cons_succ]))
    refine Sch.tn_e rfl rfl (fun K hK => ?_)
    go_wp2_with fail
    refine (HWe.out _ HX.out).mono ?_
    rintro e w6 ⟨rfl, hb⟩
    replace HB := bel_tr HB hb
    replace HX := Lib.hid (HX.out.keep hb)
    replace HY := Lib.hid (HY.out.keep hb)
    replace HBf := Lib.hid (HBf.out.keep hb)
    clear hb HWe
    refine hK _ _ HBf.out ?_
    clear hK K
    repeat (first
      | (refine Sch.tn_q rfl rfl rfl (fun K hK => ?_); go_big_quiet_op; (first | refine hK _ ?_ | refine ⟨_, fun _ _ => rfl, hK _ ?_⟩); clear hK K)
      | (refine Sch.tn_chk _ _ _ rfl rfl rfl rfl rfl ?_; simp only [Act.put, List.setIfInBounds_toArray, List.set_cons_zero, List.set_cons_succ])
      | (refine Sch.tn_load _ _ _ _ _ rfl rfl rfl rfl (by first | exact Bf.l) rfl ?_; simp only [Act.put, List.setIfInBounds_toArray, List.set_cons_zero, List.set_cons_succ]))
    refine Sch.tn_n ?_
    go_wp2_with fail
    go_ret
    exact ⟨rfl, HB.out⟩
  · have hn : ((T.length : Int) + 1 == 0) = false := by rw [beq_eq_false_iff_ne]; omega
    have hp : (0 : Int) < (T.length : Int) + 1 := by omega
    simp only [List.headD_cons, List.length_cons, Nat.add_one_ne_zero, decide_false] at *
    obtain ⟨b4, o4, rfl, hc⟩ := HY.out.resolve_left (by simp)
    have hc0 := hc 0 (by simp)
    simp only [List.getElem_cons_zero, Nat.zero_mul, Nat.zero_add, Nat.add_zero] at hc0
    obtain ⟨c0, c1⟩ := hc0
    obtain ⟨z0, z1⟩ := HBf.out
    have f0 := HFr.out 0
    have f1 := HFr.out 1
    have HBf2 : Hid (Bf w.heap.size t ((w1.setCell ⟨w.heap.size, 0, none⟩ (.int .i64 t.1)).setCell ⟨w.heap.size, 1, none⟩ (.int .i64 t.2))) := by constructor <;> go_simp
    have hgb := gb_trans (gb_setCell w1 w.heap.size 0 (.int .i64 t.1)) (gb_setCell _ w.heap.size 1 (.int .i64 t.2))
    have HB2 : Hid (Below w.heap.size w ((w1.setCell ⟨w.heap.size, 0, none⟩ (.int .i64 t.1)).setCell ⟨w.heap.size, 1, none⟩ (.int .i64 t.2))) := below_gb HB.out hgb HB.out.size (Nat.le_refl _)
    have HX2 := Lib.hid (HX0.out.keep HB2.out)
    have HY2 := Lib.hid (HY0.out.keep HB2.out)
    obtain ⟨t1, t2⟩ := t
    have HNt := Lib.hid (rfl : T.length = T.length)
    generalize hnT : T.length = nT at HSa HTl hn hp HNt ⊢
    replace HNt := Lib.hid hnT
    clear hc hgb hnT HFr HB HX HY HBf HX0 HY0
    go_upto_region 4 with fail
    generalize hw2 : ((w1.setCell ⟨w.heap.size, 0, none⟩ (.int .i64 t1)).setCell ⟨w.heap.size, 1, none⟩ (.int .i64 t2)) = w7 at *
    clear hw2 c0 c1 z0 z1 f0 f1
    have hd := (Below.refl w7.heap.size w7).drew
    have HB := bel_tr HB2 hd
    have HX := Lib.hid (HX2.out.keep hd)
    have HY := Lib.hid (HY2.out.keep hd)
    have HBf := Lib.hid (HBf2.out.keep hd)
    clear hd HB2 HX2 HY2 HBf2
    refine Sch.wp_region_tn (Bf w.heap.size (t1, t2)) (.val 0 (.val 2 (.one 1 (.one 3 (.val 4 (.val 5 (.val 7 (.one 6 (.val 8 (.val 9 (.val 10 (.val 11 (.val 13 (.val 14 (.val 15 (.one 12 (.val 16 (.val 17 (.val 18 .done))))))))))))))))))) (by kernel_rfl) (by kernel_rfl) HBf.out ?_
    repeat (first
      | (refine Sch.tn_q rfl rfl rfl (fun K hK => ?_); go_big_quiet_op; (first | refine hK _ ?_ | refine ⟨_, fun _ _ => rfl, hK _ ?_⟩); clear hK K)
      | (refine Sch.tn_chk _ _ _ rfl rfl rfl rfl rfl ?_; simp only [Act.put, List.setIfInBounds_toArray, List.set_cons_zero, List.set_cons_succ])
      | (refine Sch.tn_load _ _ _ _ _ rfl rfl rfl rfl (by first | exact Bf.l) rfl ?_; simp only [Act.put, List.setIfInBounds_toArray, List.set_cons_zero, List.set_cons_succ]))
    generalize w7.drew = w2 at *
    refine Sch.tn_e rfl rfl (fun K hK => ?_)
    go_wp2_with fail
    refine (HFa.out _ HX.out).mono ?_
    rintro e w3 ⟨v3, rfl, ho, hb⟩
    obtain ⟨a3, c3, rfl, hr3, -⟩ := OD.row ho
    rw [show ((t1, t2) :: T).length = nT + 1 from congrArg (· + 1) HNt.out]
    have HR3 := Lib.hid hr3
    replace HB := bel_tr HB hb
    replace HX := Lib.hid (HX.out.keep hb)
    replace HY := Lib.hid (HY.out.keep hb)
    replace HBf := Lib.hid (HBf.out.keep hb)
    clear hb ho hr3 HFa
    refine hK _ _ HBf.out ?_
    clear hK K
    repeat (first
      | (refine Sch.tn_q rfl rfl rfl (fun K hK => ?_); go_big_quiet_op; (first | refine hK _ ?_ | refine ⟨_, fun _ _ => rfl, hK _ ?_⟩); clear hK K)
      | (refine Sch.tn_chk _ _ _ rfl rfl rfl rfl rfl ?_; simp only [Act.put, List.setIfInBounds_toArray, List.set_cons_zero, List.set_cons_succ])
      | (refine Sch.tn_load _ _ _ _ _ rfl rfl rfl rfl (by first | exact Bf.l) rfl ?_; simp only [Act.put, List.setIfInBounds_toArray, List.set_cons_zero, List.set_cons_succ]))
    refine Sch.tn_e rfl rfl (fun K hK => ?_)
    go_wp2_with fail
    refine (HSa.out a3 c3 _ HR3.out HY.out).mono ?_
    rintro e w4 ⟨rfl, hb⟩
    replace HB := bel_tr HB hb
    replace HX := Lib.hid (HX.out.keep hb)
    replace HY := Lib.hid (HY.out.keep hb)
    replace HBf := Lib.hid (HBf.out.keep hb)
    clear hb HSa HR3
    refine hK _ _ HBf.out ?_
    clear hK K
    repeat (first
      | (refine Sch.tn_q rfl rfl rfl (fun K hK => ?_); go_big_quiet_op; (first | refine hK _ ?_ | refine ⟨_, fun _ _ => rfl, hK _ ?_⟩); clear hK K)
      | (refine Sch.tn_chk _ _ _ rfl rfl rfl rfl rfl ?_; simp only [Act.put, List.setIfInBounds_toArray, List.set_cons_zero, List.set_cons_succ])
      | (refine Sch.tn_load _ _ _ _ _ rfl rfl rfl rfl (by first | exact Bf.l) rfl ?_; simp only [Act.put, List.setIfInBounds_toArray, List.set_cons_zero, List.set_cons_succ]))
    refine Sch.tn_e rfl rfl (fun K hK => ?_)
    go_wp2_with fail
    refine (HFi.out _ HX.out).mono ?_
    rintro e w5 ⟨rfl, hb⟩
    replace HB := bel_tr HB hb
    replace HX := Lib.hid (HX.out.keep hb)
    replace HY := Lib.hid (HY.out.keep hb)
    replace HBf := Lib.hid (HBf.out.keep hb)
    clear hb HFi
    refine hK _ _ HBf.out ?_
    clear hK K
    repeat (first
      | (refine Sch.tn_q rfl rfl rfl (fun K hK => ?_); go_big_quiet_op; (first | refine hK _ ?_ | refine ⟨_, fun _ _ => rfl, hK _ ?_⟩); clear hK K)
      | (refine Sch.tn_chk _ _ _ rfl rfl rfl rfl rfl ?_; simp only [Act.put, List.setIfInBounds_toArray, List.set_cons_zero, List.set_cons_succ])
      | (refine Sch.tn_load _ _ _ _ _ rfl rfl rfl rfl (by first | exact Bf.l) rfl ?_; simp only [Act.put, List.setIfInBounds_toArray, List.set_cons_zero, List.set_cons_succ]))
    refine Sch.tn_e rfl rfl (fun K hK => ?_)
    go_wp2_with fail
    refine (HWe.out _ HX.out).mono ?_
    rintro e w6 ⟨rfl, hb⟩
    replace HB := bel_tr HB hb
    replace HX := Lib.hid (HX.out.keep hb)
    replace HY := Lib.hid (HY.out.keep hb)
    replace HBf := Lib.hid (HBf.out.keep hb)
    clear hb HWe
    refine hK _ _ HBf.out ?_
    clear hK K
    repeat (first
      | (refine Sch.tn_q rfl rfl rfl (fun K hK => ?_); go_big_quiet_op; (first | refine hK _ ?_ | refine ⟨_, fun _ _ => rfl, hK _ ?_⟩); clear hK K)
      | (refine Sch.tn_chk _ _ _ rfl rfl rfl rfl rfl ?_; simp only [Act.put, List.setIfInBounds_toArray, List.set_cons_zero, List.set_cons_succ])
      | (refine Sch.tn_load _ _ _ _ _ rfl rfl rfl rfl (by first | exact Bf.l) rfl ?_; simp only [Act.put, List.setIfInBounds_toArray, List.set_cons_zero, List.set_cons_succ]))
    refine Sch.tn_n ?_
    go_wp2_with fail
    go_ret
    exact ⟨rfl, HB.out⟩

set_option maxRecDepth 100000 in
set_option maxHeartbeats 1000000 in
theorem whole_true (l y : List Nt) (q : Int) (a b : Option Addr) (c d : Nat) (w : World) (h : wholeP l = (y, q)) (hf : ∀ x ∈ l, fitN x) (hx : RowN w a l) (hy : RowN w b y) (hlx : l.length ≤ 1000000) :
    Calls Tryz.prog 9 #[.slice a l.length c, .slice b y.length d, .int .i64 q] w fun e w' => e = .returned (.bool true) ∧ Below w.heap.size w w' := by
  have HW := Lib.hid (whole_any l a c w hf hx hlx)
  rw [h] at HW
  have hyl : y.length ≤ 1000000 := by
    have h2 : (wholeP l).1.length ≤ l.length := by
      unfold wholeP
      split
      · exact whole_len l
      · exact Nat.zero_le _
    rw [h] at h2
    exact Nat.le_trans h2 hlx
  have HEq := Lib.hid (fun a2 c2 w h1 h2 => Qs.equal_ref y y a2 b c2 d w h1 h2 hyl hyl)
  rw [decide_eq_true rfl] at HEq
  have HY := Lib.hid hy
  have hqq : (q == q) = true := by simp
  clear h hf hx hy hlx hyl
  go_enter Tryz.func9, Tryz.ntmps9
  go_wp2_with fail
  refine HW.out.mono ?_
  rintro e w2 ⟨v, rfl, ho, hb⟩
  obtain ⟨a2, c2, rfl, hr, -⟩ := ON.row ho
  have HB := Lib.hid hb
  have HG := Lib.hid (HEq.out a2 c2 w2 hr (HY.out.keep hb))
  clear ho hb hr HW HEq
  generalize y.length = ny at *
  go_wp2_with fail
  refine HG.out.mono ?_
  rintro e w3 ⟨rfl, hb⟩
  replace HB := bel_tr HB hb
  clear hb HG
  go_wp2_with fail
  go_ret
  exact ⟨rfl, HB.out⟩
theorem at_any (r c : Int) (w : World) : Calls Tryz.prog 14 #[.int .i64 r, .int .i64 c] w fun e w' => e = .returned (dv (r, c)) ∧ Below w.heap.size w w' := by
  go_enter Tryz.func14, Tryz.ntmps14
  go_wp2_with fail
  (try simp only [Exit.inBlock, Exit.then])
  refine bodyPost_ret (v := .agg #[.int .i64 r, .int .i64 c]) (by rw [results_cell1 (fn := Tryz.f14) (p := 4) (ty := 33) rfl]; go_simp) rfl ?_
  exact ⟨rfl, bel_box _ _⟩
theorem of_any (d p : Dt) (t q : Int) (w : World) : Calls Tryz.prog 13 #[dv d, dv p, .int .i64 t, .int .i32 q] w fun e w' => e = .returned (nv (d, p, t, q)) ∧ Below w.heap.size w w' := by
  obtain ⟨d1, d2⟩ := d
  obtain ⟨p1, p2⟩ := p
  go_enter Tryz.func13, Tryz.ntmps13
  go_wp2_with fail
  (try simp only [Exit.inBlock, Exit.then])
  refine bodyPost_ret (v := .agg #[.int .i64 d1, .int .i64 d2, .int .i64 p1, .int .i64 p2, .int .i64 t, .int .i32 q]) (by rw [results_cell1 (fn := Tryz.f13) (p := 8) (ty := 35) rfl]; go_simp) rfl ?_
  exact ⟨rfl, ((bel_box _ _).alloc (by simp) _).alloc (by simp; omega) _⟩
theorem nodes_any (v : Value) (w : World) : Calls Tryz.prog 15 #[v] w fun e w' => e = .returned v ∧ w' = w := by
  go_enter Tryz.func15, Tryz.ntmps15
  go_wp2_with fail
  go_ret
  exact ⟨rfl, rfl⟩
/-! ### At lists that are written out -/
def fitB (d : Dt) : Bool := (Lit.int .i64 d.1).wf && (Lit.int .i64 d.2).wf
theorem fitB_iff {d : Dt} : fitB d = true ↔ fitD d := by unfold fitB fitD; rw [Bool.and_eq_true]
theorem fitL {l : List Nt} (h : (l.all fun n => fitB n.1 && fitB n.2.1) = true) : ∀ x ∈ l, fitN x := fun x hx => by
  have := List.all_eq_true.1 h x hx
  rw [Bool.and_eq_true] at this
  exact ⟨fitB_iff.1 this.1, fitB_iff.1 this.2⟩
theorem faults_lit (l : List Nt) (T : List Dt) {n m : Nat} {a b : Option Addr} {c d : Nat} {w : World} (h : faultS l = T) (hf : (l.all fun n => fitB n.1 && fitB n.2.1) = true) (hn : n = l.length) (hm : m = T.length) (hx : RowN w a l) (hy : RowD w b T) (hl : l.length ≤ 1000) :
    Calls Tryz.prog 16 #[.slice a n c, .slice b m d] w fun e w' => e = .returned (.bool true) ∧ Below w.heap.size w w' := by
  subst hn; subst hm
  exact faults_true l T a b c d w h (fitL hf) hx hy (by omega)
theorem whole_lit (l y : List Nt) (q : Int) {n m : Nat} {a b : Option Addr} {c d : Nat} {w : World} (h : wholeP l = (y, q)) (hf : (l.all fun n => fitB n.1 && fitB n.2.1) = true) (hn : n = l.length) (hm : m = y.length) (hx : RowN w a l) (hy : RowN w b y) (hl : l.length ≤ 1000) :
    Calls Tryz.prog 9 #[.slice a n c, .slice b m d, .int .i64 q] w fun e w' => e = .returned (.bool true) ∧ Below w.heap.size w w' := by
  subst hn; subst hm
  exact whole_true l y q a b c d w h (fitL hf) hx hy (by omega)
end Go.Proofs.YtodjccfaipkpfaaGreatDoor.Fo
end
