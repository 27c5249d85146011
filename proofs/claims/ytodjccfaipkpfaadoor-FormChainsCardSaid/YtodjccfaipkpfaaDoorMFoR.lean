/-
  The reference: Same at faults, Flaw, Faults, Whole.
-/
import Derived.Test.YtodjccfaipkpfaaDoorMFoH
import Derived.Test.YtodjccfaipkpfaaDoorQRfF

section
namespace Go.Proofs.YtodjccfaipkpfaaDoor.Fo
set_option linter.unusedVariables false
open Go.RowKit V Go.Sort D Nd Qs Wk
attribute [local irreducible] Sch.heldN Sch.stepV Sch.stepE

theorem eqlT (x y : Dt) (w : World) : Sem.run Tryd.prog (binOp .eql 44 (dv x) (dv y)) w = .ok (.bool (decide (x = y))) w := by
  have u3 := Tryd.underlying3
  have a3 := Tryd.isAgg3
  have z3 := Tryd.sizeOf3
  have u4 := Tryd.underlying38
  have a4 := Tryd.isAgg38
  have z4 := Tryd.sizeOf38
  have hS : Tryd.prog.underlying 44 = some (.struct (Tryd.prog.fieldsOf 44)) := by kernel_rfl
  have hp : Tryd.prog.stoodInHeld 44 = false := by kernel_rfl
  rw [run_eql_struct, show (10000 : Nat) = 9999 + 1 from rfl, run_equalIn_agg w 9999 44 _ _ hS hp]
  simp only [Program.fieldsOf, Tryd.underlying44]
  go_simp
  obtain ⟨x1, x2⟩ := x
  obtain ⟨y1, y2⟩ := y
  by_cases h1 : x1 = y1 <;> by_cases h2 : x2 = y2 <;> simp [h1, h2]
theorem neqT (x y : Dt) (w : World) : Sem.run Tryd.prog (binOp .neq 44 (dv x) (dv y)) w = .ok (.bool (!decide (x = y))) w := by
  have u3 := Tryd.underlying3
  have a3 := Tryd.isAgg3
  have z3 := Tryd.sizeOf3
  have u4 := Tryd.underlying38
  have a4 := Tryd.isAgg38
  have z4 := Tryd.sizeOf38
  have hS : Tryd.prog.underlying 44 = some (.struct (Tryd.prog.fieldsOf 44)) := by kernel_rfl
  have hp : Tryd.prog.stoodInHeld 44 = false := by kernel_rfl
  rw [run_neq_struct, show (10000 : Nat) = 9999 + 1 from rfl, run_equalIn_agg w 9999 44 _ _ hS hp]
  simp only [Program.fieldsOf, Tryd.underlying44]
  go_simp
  obtain ⟨x1, x2⟩ := x
  obtain ⟨y1, y2⟩ := y
  by_cases h1 : x1 = y1 <;> by_cases h2 : x2 = y2 <;> simp [h1, h2]
theorem neqT_yes {p q : Dt} (h : ¬ p = q) : ∀ w, Sem.run Tryd.prog (binOp .neq 44 (.agg #[.int .i64 p.1, .int .i64 p.2]) (.agg #[.int .i64 q.1, .int .i64 q.2])) w = .ok (.bool true) w := by
  intro w
  have := neqT p q w
  rwa [decide_eq_false h] at this
theorem eqlT_yes (p : Dt) : ∀ w, Sem.run Tryd.prog (binOp .eql 44 (dv p) (dv p)) w = .ok (.bool true) w := fun w => by
  have := eqlT p p w
  rwa [decide_eq_true rfl] at this
set_option maxRecDepth 100000 in
set_option maxHeartbeats 1000000 in
theorem sameT_ref (xs ys : List Dt) (a b : Option Addr) (c d : Nat) (w : World) (hx : RowD w a xs) (hy : RowD w b ys) (hlx : xs.length ≤ 140737488355328) (hly : ys.length ≤ 140737488355328) :
    Calls Tryd.prog 20 #[.slice a xs.length c, .slice b ys.length d] w fun e w' => e = .returned (.bool (decide (xs = ys))) ∧ Below w.heap.size w w' := by
  have HX := Lib.hid hx
  have HY := Lib.hid hy
  have hli : (xs.length : Int) ≤ 140737488355328 := by omega
  clear hx hy hlx hly
  by_cases hl : xs.length = ys.length
  · have q0 : ((xs.length : Int) != (ys.length : Int)) = false := by rw [bne_eq_false_iff_eq]; omega
    go_enter Tryd.func20, Tryd.ntmps20
    go_wp2_with fail
    go_loopw [5] (fun i wr => ∃ k : Nat, k ≤ xs.length ∧ i = .int .i64 k ∧ Hid (Below w.heap.size w wr) ∧ Hid (∀ j (hj : j < xs.length) (hj2 : j < ys.length), j < k → xs[j] = ys[j])) (fun i _ => xs.length - (intOf i).toNat)
    case atStart => exact ⟨0, Nat.zero_le _, rfl, Below.refl _ _, fun j _ _ h => by omega⟩
    case round =>
      obtain ⟨k, hk, rfl, hh, HV⟩ := hrel
      by_cases hlt : k < xs.length
      · have hlt2 : k < ys.length := by omega
        obtain ⟨b1, o1, rfl, p0, p1⟩ := HX.out.get hh.out k hlt
        obtain ⟨b2, o2, rfl, q1, q2⟩ := HY.out.get hh.out k hlt2
        obtain ⟨p, hp⟩ : ∃ p, p = xs[k] := ⟨_, rfl⟩
        obtain ⟨q, hq⟩ : ∃ q, q = ys[k] := ⟨_, rfl⟩
        rw [← hp] at p0 p1
        rw [← hq] at q1 q2
        have HP := Lib.hid hp
        have HQ := Lib.hid hq
        clear hp hq
        by_cases hpq : p = q
        · subst hpq
          go_wp2_with fail
          go_quiet (fail)
          go_wp2_with fail
          go_roundw
          case rel =>
            refine ⟨k + 1, by omega, by go_num, bel_drewN hh.out _, fun j hj hj2 hjk => ?_⟩
            by_cases hjk2 : j = k
            · subst hjk2; rw [← HP.out, ← HQ.out]
            · exact HV.out j hj hj2 (by omega)
          case measure => simp [intOf]; omega
        · have hne := neqT_yes hpq
          have HN : Hid (decide (xs = ys) = false) := by
            show _ = _
            rw [decide_eq_false_iff_not]
            rintro rfl
            exact hpq (by rw [HP.out, HQ.out])
          clear hpq
          go_wp2_with fail
          go_quiet (fail)
          go_wp2_with fail
          go_ret
          exact ⟨by rw [HN.out]; rfl, bel_drewN hh.out _⟩
      · obtain rfl : k = xs.length := by omega
        have HN : Hid (decide (xs = ys) = true) := by
          show _ = _
          rw [decide_eq_true_eq]
          exact List.ext_getElem hl fun j hj hj2 => HV.out j hj hj2 hj
        have hend : ¬ (xs.length : Int) < (xs.length : Int) := by omega
        go_wp2_with fail
        go_ret
        exact ⟨by rw [HN.out]; rfl, hh.out⟩
  · have q0 : ((xs.length : Int) != (ys.length : Int)) = true := by rw [bne_iff_ne]; omega
    have HN : Hid (decide (xs = ys) = false) := by
      show _ = _
      rw [decide_eq_false_iff_not]
      rintro rfl
      exact hl rfl
    go_enter Tryd.func20, Tryd.ntmps20
    go_wp2_with fail
    go_ret
    exact ⟨by rw [HN.out]; rfl, Below.refl _ _⟩


/-- The node's box, the node before. -/
def Fr (g2 b1 o1 : Nat) (q p : Nt) (w : World) : Prop := Nb w g2 q ∧ Na w b1 o1 p
section
variable {g2 b1 o1 : Nat} {q p : Nt}
theorem Fr.keep {w w' : World} (h : Fr g2 b1 o1 q p w) (hb : Below w.heap.size w w') : Fr g2 b1 o1 q p w' := ⟨h.1.keep hb, h.2.keep hb⟩
theorem Fr.lm : ∀ w, Fr g2 b1 o1 q p w → (Instr.loadAt 35 (.pointer (some ⟨b1, o1, none⟩))).run Tryd.prog w = .ok (dv p.1) w := fun w k => k.2.loadD
theorem Fr.ln : ∀ w, Fr g2 b1 o1 q p w → (Instr.loadAt 35 (.pointer (some ⟨g2, 0, none⟩))).run Tryd.prog w = .ok (dv q.1) w := fun w k => by
  obtain ⟨h0, h1, -⟩ := k.1
  go_simp
end
theorem idx_eq {l : List Nt} {d : Dt} : (idxS l d = -1 ∧ atS l d = none) ∨ ∃ k, ∃ hk : k < l.length, idxS l d = (k : Int) ∧ atS l d = some l[k] := by
  rcases h : idxG l d with _ | i
  · exact .inl ⟨(idx_none fun j hj => at_none.1 (idxG_none.1 h) _ (List.getElem_mem hj)).1, idxG_none.1 h⟩
  · unfold idxG at h
    obtain ⟨k, h1, rfl⟩ := Option.map_eq_some_iff.1 h
    obtain ⟨hk, h2, h3⟩ := List.findIdx?_eq_some_iff_getElem.1 h1
    obtain ⟨e1, e2⟩ := idx_hit hk (fun j hj hjk => by simpa using h3 j hjk) (by simpa using h2)
    exact .inr ⟨k, hk, e1, e2⟩

set_option maxRecDepth 100000 in
set_option maxHeartbeats 4000000 in
theorem flaw_ref (l : List Nt) (i : Nat) (hi : i < l.length) (a : Option Addr) (c : Nat) (w : World) (hq32 : ∀ x ∈ l, i32 x.2.2.2) (hx : RowN w a l) (hlx : l.length ≤ 1000000) :
    Calls Tryd.prog 24 #[.slice a l.length c, .int .i64 (i : Int)] w fun e w' => e = .returned (.int .i64 (flawN l i)) ∧ Below w.heap.size w w' := by
  have HE := Lib.hid (flaw_eq hi)
  have HX := Lib.hid hx
  have hli : (l.length : Int) ≤ 1000000 := by omega
  have hi0 : (i : Int) < (l.length : Int) := by omega
  obtain ⟨b1, o1, rfl, hna⟩ := na_of hx i hi
  have hix := ixN b1 o1 l.length c i (i : Int) rfl hi
  have H32 := hq32 l[i] (List.getElem_mem hi)
  obtain ⟨q, hq⟩ : ∃ q, q = l[i] := ⟨_, rfl⟩
  have HQ := Lib.hid hq
  rw [← hq] at hna HE H32
  clear hq
  have HV := Lib.hid (fun w => validN_ref q H32 w)
  have HR := Lib.hid (fun w => root_ref q.2.1 w)
  have HFi := Lib.hid (fun w h => find_ref l q.2.1 (some ⟨b1, o1, none⟩) c w h hlx)
  have HZ := Lib.hid (idx_eq (l := l) (d := q.2.1))
  obtain ⟨z, hz⟩ : ∃ z, z = idxS l q.2.1 := ⟨_, rfl⟩
  rw [← hz] at HZ HFi
  clear hz H32 hq32
  obtain ⟨o, ho⟩ : ∃ o, o = earlyN l i q := ⟨_, rfl⟩
  rw [← ho] at HE
  have HO := Lib.hid ho
  clear ho
  generalize validN q = vd at *
  generalize rootR q.2.1 = rt at *
  have hb1 := bel_box w (.cells (nc q) 37)
  have HN2 := Lib.hid (Nb.new w q)
  have HX2 := Lib.hid (HX.out.keep hb1)
  have HB := Lib.hid hb1
  clear hx hlx hb1 HX
  obtain ⟨n0, n1, n2, n3, n4, n5⟩ := hna
  obtain ⟨⟨q1, q2⟩, ⟨q3, q4⟩, q5, q6⟩ := q
  generalize flawN l i = R at *
  go_enter Tryd.func24, Tryd.ntmps24
  go_wp2_with fail
  generalize hw2 : (w.alloc (.cells #[.int .i64 q1, .int .i64 q2, .int .i64 q3, .int .i64 q4, .int .i64 q5, .int .i32 q6] 37)) = w2 at *
  clear n0 n1 n2 n3 n4 n5 hw2
  refine (HV.out _).mono ?_
  rintro e w3 ⟨rfl, hb⟩
  replace HB := bel_tr HB hb
  replace HX2 := Lib.hid (HX2.out.keep hb)
  replace HN2 := Lib.hid (HN2.out.keep hb)
  clear hb HV
  rcases vd with _ | _
  · go_wp2_with fail
    go_ret
    exact ⟨by rw [HE.out]; rfl, HB.out⟩
  have HE2 : Hid (R = if o = true then 2 else if rt = true then 0 else match atS l (q3, q4) with | none => 3 | some q => if q5 ≤ q.2.2.1 then 4 else 0) := HE.out
  clear HE
  go_wp2_with fail
  have hd := (Below.refl w3.heap.size w3).drew
  replace HB := Lib.hid HB.out.drew
  replace HX2 := Lib.hid (HX2.out.keep hd)
  replace HN2 := Lib.hid (HN2.out.keep hd)
  clear hd
  go_cut [27] from 28 (fun s wx => s = .bool o ∧ Hid (Below w.heap.size w wx) ∧ Hid (RowN wx (some ⟨b1, o1, none⟩) l) ∧ Hid (Nb wx w.heap.size ((q1, q2), (q3, q4), q5, q6)))
  case first =>
    clear HE2 HZ HFi HR
    rcases i with _ | j
    · have hO : o = false := HO.out
      subst hO
      have HK : Hid (Fr w.heap.size b1 (o1 + 0 * 6) ((q1, q2), (q3, q4), q5, q6) l[0] w3.drew) := ⟨HN2.out, by obtain ⟨b', o', e, h⟩ := na_of HX2.out 0 hi; cases e; exact h⟩
      have hg : decide ((0 : Int) < 0) = false := rfl
      refine Sch.wp_region_tn (Fr w.heap.size b1 (o1 + 0 * 6) ((q1, q2), (q3, q4), q5, q6) l[0]) (.val 0 (.val 1 (.val 2 (.val 3 (.val 4 (.val 5 (.val 6 (.val 7 (.val 8 (.val 9 (.val 10 (.one 11 (.val 12 (.val 13 .done)))))))))))))) (by kernel_rfl) (by kernel_rfl) HK.out ?_
      repeat (first
        | (refine Sch.tn_q rfl rfl rfl (fun K hK => ?_); go_big_quiet_op; (first | refine hK _ ?_ | refine ⟨_, fun _ _ => rfl, hK _ ?_⟩); clear hK K)
        | (refine Sch.tn_chk _ _ _ rfl rfl rfl rfl rfl ?_; simp only [Act.put, List.setIfInBounds_toArray, List.set_cons_zero, List.set_cons_succ])
        | (refine Sch.tn_load _ _ _ _ _ rfl rfl rfl rfl (by first | exact Fr.lm | exact Fr.ln) rfl ?_; simp only [Act.put, List.setIfInBounds_toArray, List.set_cons_zero, List.set_cons_succ]))
      repeat (first
        | (refine Sch.tn_q rfl rfl rfl (fun K hK => ?_); go_big_quiet_op; (first | refine hK _ ?_ | refine ⟨_, fun _ _ => rfl, hK _ ?_⟩); clear hK K)
        | (refine Sch.tn_chk _ _ _ rfl rfl rfl rfl rfl ?_; simp only [Act.put, List.setIfInBounds_toArray, List.set_cons_zero, List.set_cons_succ])
        | (refine Sch.tn_load _ _ _ _ _ rfl rfl rfl rfl (by first | exact Fr.lm | exact Fr.ln) rfl ?_; simp only [Act.put, List.setIfInBounds_toArray, List.set_cons_zero, List.set_cons_succ])
        | (refine Sch.tn_s _ rfl rfl rfl ?_; simp only [Act.put, List.setIfInBounds_toArray, List.set_cons_zero, List.set_cons_succ])
        | (refine Sch.tn_se _ rfl rfl rfl ?_; simp only [Act.put, List.setIfInBounds_toArray, List.set_cons_zero, List.set_cons_succ]))
      refine Sch.tn_n ?_
      go_wp2_with fail
      go_meet
      case rel => exact ⟨rfl, HB, HX2, HN2⟩
    · have hj : j < l.length := by omega
      have hO : o = !less l[j].1 (q1, q2) := HO.out.trans (early_succ hj _)
      obtain ⟨b2, o2, e2, hnb⟩ := na_of HX2.out j hj
      cases e2
      obtain ⟨p, hp⟩ : ∃ p, p = l[j] := ⟨_, rfl⟩
      rw [← hp] at hnb hO
      clear hp
      have HK : Hid (Fr w.heap.size b1 (o1 + j * 6) ((q1, q2), (q3, q4), q5, q6) p w3.drew) := ⟨HN2.out, hnb⟩
      have hi3 : (0 : Int) < (j : Int) + 1 := by omega
      have hg : decide ((0 : Int) < (j : Int) + 1) = true := by rw [decide_eq_true_eq]; exact hi3
      have hwr := wrap_nat (show (j : Int) ≤ 140737488355328 by omega)
      have hixj := ixN b1 o1 l.length c j (j : Int) rfl hj
      have HC := Lib.hid (fun w => less_ref p.1 (q1, q2) w)
      generalize less p.1 (q1, q2) = t at *
      subst hO
      clear hnb
      rw [show ((j + 1 : Nat) : Int) = (j : Int) + 1 from rfl]
      refine Sch.wp_region_tn (Fr w.heap.size b1 (o1 + j * 6) ((q1, q2), (q3, q4), q5, q6) p) (.val 0 (.val 1 (.val 2 (.val 3 (.val 4 (.val 5 (.val 6 (.val 7 (.val 8 (.val 9 (.val 10 (.one 11 (.val 12 (.val 13 .done)))))))))))))) (by kernel_rfl) (by kernel_rfl) HK.out ?_
      repeat (first
        | (refine Sch.tn_q rfl rfl rfl (fun K hK => ?_); go_big_quiet_op; (first | refine hK _ ?_ | refine ⟨_, fun _ _ => rfl, hK _ ?_⟩); clear hK K)
        | (refine Sch.tn_chk _ _ _ rfl rfl rfl rfl rfl ?_; simp only [Act.put, List.setIfInBounds_toArray, List.set_cons_zero, List.set_cons_succ])
        | (refine Sch.tn_load _ _ _ _ _ rfl rfl rfl rfl (by first | exact Fr.lm | exact Fr.ln) rfl ?_; simp only [Act.put, List.setIfInBounds_toArray, List.set_cons_zero, List.set_cons_succ]))
      generalize w3.drew = w4 at *
      refine Sch.tn_e rfl rfl (fun K hK => ?_)
      go_wp2_with fail
      refine (HC.out _).mono ?_
      rintro e w5 ⟨rfl, hl⟩
      have hb := hl.bel
      replace HB := bel_tr HB hb
      replace HX2 := Lib.hid (HX2.out.keep hb)
      replace HN2 := Lib.hid (HN2.out.keep hb)
      replace HK := Lib.hid (HK.out.keep hb)
      clear hb hl
      refine hK _ _ HK.out ?_
      clear hK K
      repeat (first
        | (refine Sch.tn_q rfl rfl rfl (fun K hK => ?_); go_big_quiet_op; (first | refine hK _ ?_ | refine ⟨_, fun _ _ => rfl, hK _ ?_⟩); clear hK K)
        | (refine Sch.tn_chk _ _ _ rfl rfl rfl rfl rfl ?_; simp only [Act.put, List.setIfInBounds_toArray, List.set_cons_zero, List.set_cons_succ])
        | (refine Sch.tn_load _ _ _ _ _ rfl rfl rfl rfl (by first | exact Fr.lm | exact Fr.ln) rfl ?_; simp only [Act.put, List.setIfInBounds_toArray, List.set_cons_zero, List.set_cons_succ]))
      refine Sch.tn_n ?_
      go_wp2_with fail
      go_meet
      case rel => exact ⟨rfl, HB, HX2, HN2⟩
  case rest =>
    obtain ⟨rfl, HB, HX2, HN2⟩ := hcut
    rcases o with _ | _
    case true =>
      go_wp2_with fail
      go_ret
      exact ⟨by rw [HE2.out]; rfl, HB.out⟩
    have HE3 : Hid (R = if rt = true then 0 else match atS l (q3, q4) with | none => 3 | some q => if q5 ≤ q.2.2.1 then 4 else 0) := HE2.out
    clear HE2
    obtain ⟨n0, n1, n2, n3, n4, n5⟩ := HN2.out
    go_wp2_with fail
    refine (HR.out _).mono ?_
    rintro e w6 ⟨rfl, hb⟩
    replace HB := bel_tr HB hb
    replace HX2 := Lib.hid (HX2.out.keep hb)
    replace HN2 := Lib.hid (HN2.out.keep hb)
    clear hb HR n0 n1 n2 n3 n4 n5
    rcases rt with _ | _
    case true =>
      go_wp2_with fail
      go_ret
      exact ⟨by rw [HE3.out]; rfl, HB.out⟩
    have HE4 : Hid (R = match atS l (q3, q4) with | none => 3 | some q => if q5 ≤ q.2.2.1 then 4 else 0) := HE3.out
    clear HE3
    obtain ⟨n0, n1, n2, n3, n4, n5⟩ := HN2.out
    go_wp2_with fail
    refine (HFi.out _ HX2.out).mono ?_
    rintro e w7 ⟨rfl, hb⟩
    replace HB := bel_tr HB hb
    replace HX2 := Lib.hid (HX2.out.keep hb)
    replace HN2 := Lib.hid (HN2.out.keep hb)
    clear hb HFi n0 n1 n2 n3 n4 n5
    obtain ⟨n0, n1, n2, n3, n4, n5⟩ := HN2.out
    rcases HZ.out with ⟨rfl, ha⟩ | ⟨k, hk, rfl, ha⟩
    · rw [ha] at HE4
      clear ha HZ
      go_wp2_with fail
      go_ret
      exact ⟨by rw [HE4.out]; rfl, HB.out⟩
    · rw [ha] at HE4
      obtain ⟨b2, o2, e2, hnb⟩ := na_of HX2.out k hk
      cases e2
      obtain ⟨p, hp⟩ : ∃ p, p = l[k] := ⟨_, rfl⟩
      rw [← hp] at hnb HE4
      obtain ⟨-, -, -, -, p4, -⟩ := hnb
      have hixk := ixN b1 o1 l.length c k (k : Int) rfl hk
      clear ha HZ hp
      by_cases ht : q5 ≤ p.2.2.1
      · have HE5 : Hid (R = 4) := by show _ = _; rw [HE4.out]; simp only; rw [if_pos ht]
        clear HE4
        go_wp2_with fail
        go_quiet (fail)
        go_wp2_with fail
        go_ret
        exact ⟨by rw [HE5.out]; rfl, bel_drewN HB.out _⟩
      · have HE5 : Hid (R = 0) := by show _ = _; rw [HE4.out]; simp only; rw [if_neg ht]
        clear HE4
        go_wp2_with fail
        go_quiet (fail)
        go_wp2_with fail
        go_ret
        exact ⟨by rw [HE5.out]; rfl, bel_drewN HB.out _⟩
end Go.Proofs.YtodjccfaipkpfaaDoor.Fo
end

/-
  The reference's Faults, stands and Whole.
-/
section
namespace Go.Proofs.YtodjccfaipkpfaaDoor.Fo
set_option linter.unusedVariables false
open Go.RowKit V Go.Sort D Nd Qs Wk
attribute [local irreducible] Sch.heldN Sch.stepV Sch.stepE

set_option maxRecDepth 100000 in
set_option maxHeartbeats 4000000 in
theorem faults_ref (l : List Nt) (a : Option Addr) (c : Nat) (w : World) (hq32 : ∀ x ∈ l, i32 x.2.2.2) (hx : RowN w a l) (hlx : l.length ≤ 1000000) :
    Calls Tryd.prog 9 #[.slice a l.length c] w fun e w' => ∃ v, e = .returned v ∧ OD w' w.heap.size 44 v (faultS l) ∧ Below w.heap.size w w' := by
  have HF := Lib.hid (fun (k : Nat) hk w h => flaw_ref l k hk a c w hq32 h hlx)
  have HX := Lib.hid hx
  have hli : (l.length : Int) ≤ 1000000 := by omega
  have HLn := Lib.hid hlx
  clear hq32 hx hlx
  go_enter Tryd.func9, Tryd.ntmps9
  go_wp2_with fail
  go_loopw [3, 4, 5] (fun v i _ wr => ∃ k : Nat, k ≤ l.length ∧ i = .int .i64 (k : Int) ∧ Hid (Below w.heap.size w wr) ∧ Hid (OD wr w.heap.size 44 v (faultT l k))) (fun _ i _ _ => l.length - (intOf i).toNat)
  case atStart => exact ⟨0, Nat.zero_le _, rfl, Below.refl _ _, OD.nil _ _ _⟩
  case round =>
    obtain ⟨k, hk, rfl, HB, HO⟩ := hrel
    by_cases hlt : k < l.length
    · have hi0 : (k : Int) < (l.length : Int) := by omega
      have HT1 := Lib.hid (fault_hit (l := l) (k := k))
      have HT0 := Lib.hid (fault_miss (l := l) (k := k))
      have HKl : Hid ((faultT l k).length ≤ 1000000) := by show _ ≤ _; have := fault_len l k; have := HLn.out; omega
      have HC := Lib.hid (HF.out k hlt wr (HX.out.keep HB.out))
      generalize flawN l k = z at *
      go_wp2_with fail
      refine HC.out.mono ?_
      rintro e w5 ⟨rfl, hb⟩
      replace HB := bel_tr HB hb
      replace HO := Lib.hid (HO.out.below hb)
      clear hb HC
      by_cases hz : z = 0
      · have HT := Lib.hid (HT0.out hz)
        subst hz
        clear HT0 HT1
        go_wp2_with fail
        go_roundw
        case rel => exact ⟨k + 1, by omega, by go_num, HB, by show OD _ _ _ _ _; rw [HT.out]; exact HO.out⟩
        case measure => simp [intOf]; omega
      · have HT := Lib.hid (HT1.out hz)
        have hz2 : (z != 0) = true := by simpa using hz
        have hb2 := bel_box w5 (.cells #[.int .i64 (k : Int), .int .i64 z] 44)
        have HB2 := bel_tr HB hb2
        have HO2 := Lib.hid (HO.out.below hb2)
        have HBs : Hid (w.heap.size ≤ (w5.alloc (.cells #[.int .i64 (k : Int), .int .i64 z] 44)).heap.size) := HB2.out.size
        have HLt : Hid (RowD (w5.alloc (.cells #[.int .i64 (k : Int), .int .i64 z] 44)) (some ⟨w5.heap.size, 0, none⟩) [((k : Int), z)]) := RowD.lit w5 [((k : Int), z)] _ _ _ rfl
        clear hb2 HT0 HT1 hz
        go_wp2_with (at_builtin; refine wpList_appD rfl (.tmp 17) (.tmp 21) 25 rfl Tryd.underlying25 infoT _ (faultT l k) rfl HO2.out (some ⟨w5.heap.size, 0, none⟩) [((k : Int), z)] 1 rfl HLt.out (fun h => by cases h) (by have := HKl.out; simp; omega) HBs.out ?_; intro v' w' ho' hg' hgr')
        have HO7 : Hid (OD w' w.heap.size 44 v' (faultT l (k + 1))) := by show OD _ _ _ _ _; rw [HT.out]; exact ho'
        have HB7 := Lib.hid (HB2.out.grown hg' HB2.out.size (fun x hx => (HO2.out.lt x hx).1))
        clear ho' hg' hgr'
        go_wp2_with fail
        go_roundw
        case rel => exact ⟨k + 1, by omega, by go_num, HB7, HO7⟩
        case measure => simp [intOf]; omega
    · obtain rfl : k = l.length := by omega
      have hend : ¬ (l.length : Int) < (l.length : Int) := by omega
      go_wp2_with fail
      go_ret
      exact ⟨_, rfl, HO.out, HB.out⟩

theorem st_step {l : List Nt} (hv : validS l = true) {k : Nat} (hk : k < l.length) (m : Nat) : (flawN l k ≠ 0 → stF l (m + 1) l[k] = false) ∧ (flawN l k = 0 → rootR l[k].2.1 = true → stF l (m + 1) l[k] = true) ∧
    (flawN l k = 0 → rootR l[k].2.1 = false → ∃ j, ∃ hj : j < l.length, idxS l l[k].2.1 = (j : Int) ∧ stF l (m + 1) l[k] = stF l m l[j]) := by
  have h := st_flaw hv hk m
  refine ⟨fun h1 => ?_, fun h1 h2 => ?_, fun h1 h2 => ?_⟩
  · rw [h, decide_eq_false h1, Bool.false_and]
  · rw [h, decide_eq_true h1, h2]; rfl
  · have h3 := (flaw_ok hv hk).1 h1
    unfold okN at h3
    rw [h2, Bool.false_or] at h3
    rcases idx_eq (l := l) (d := l[k].2.1) with ⟨-, h4⟩ | ⟨j, hj, h4, h5⟩
    · rw [h4] at h3; cases h3
    · exact ⟨j, hj, h4, by rw [h, decide_eq_true h1, h2, h5]; rfl⟩
set_option maxRecDepth 100000 in
set_option maxHeartbeats 4000000 in
theorem stands_ref (l : List Nt) (hv : validS l = true) (i : Nat) (hi : i < l.length) (a : Option Addr) (c : Nat) (w : World) (hq32 : ∀ x ∈ l, i32 x.2.2.2) (hx : RowN w a l) (hlx : l.length ≤ 1000000) :
    Calls Tryd.prog 30 #[.slice a l.length c, .int .i64 (i : Int)] w fun e w' => e = .returned (.bool (stS l l[i])) ∧ Below w.heap.size w w' := by
  have HF := Lib.hid (fun (k : Nat) hk w h => flaw_ref l k hk a c w hq32 h hlx)
  have HFi := Lib.hid (fun d w h => find_ref l d a c w h hlx)
  have HSt := Lib.hid (fun k hk m => st_step (k := k) hv hk m)
  have HX := Lib.hid hx
  have hli : (l.length : Int) ≤ 1000000 := by omega
  have HLn := Lib.hid hlx
  have HR0 : Hid (stS l l[i] = stF l (l.length + 1 - 0) l[i]) := rfl
  clear hq32 hx hlx
  generalize stS l l[i] = R at *
  go_enter Tryd.func30, Tryd.ntmps30
  go_wp2_with fail
  go_loopw [1, 5] (fun i st wr => ∃ (k s : Nat) (hk : k < l.length), s ≤ l.length + 1 ∧ i = .int .i64 (k : Int) ∧ st = .int .i64 (s : Int) ∧ Hid (Below w.heap.size w wr) ∧ Hid (R = stF l (l.length + 1 - s) l[k])) (fun _ st _ => l.length + 1 - (intOf st).toNat)
  case atStart => exact ⟨i, 0, hi, Nat.zero_le _, rfl, rfl, Below.refl _ _, HR0⟩
  case round =>
    clear hi HR0
    obtain ⟨k, s, hk, hs, rfl, rfl, HB, HR⟩ := hrel
    by_cases hlt : s ≤ l.length
    · have hi0 : (s : Int) ≤ (l.length : Int) := by omega
      have HSk := Lib.hid (HSt.out k hk (l.length - s))
      have HR2 : Hid (R = stF l (l.length - s + 1) l[k]) := by show _ = _; rw [HR.out]; congr 1; omega
      have HC := Lib.hid (HF.out k hk wr (HX.out.keep HB.out))
      clear HR
      generalize flawN l k = z at *
      go_wp2_with fail
      refine HC.out.mono ?_
      rintro e w5 ⟨rfl, hb⟩
      replace HB := bel_tr HB hb
      clear hb HC
      by_cases hz : z = 0
      · obtain ⟨b1, o1, e1, hna⟩ := na_of (HX.out.keep HB.out) k hk
        have hix := ixN b1 o1 l.length c k (k : Int) rfl hk
        have HH := Lib.hid ((HSk.out.2).imp (fun h => h hz) (fun h => h hz))
        have HRo := Lib.hid (fun w => root_ref l[k].2.1 w)
        have HFd := Lib.hid (fun w h => HFi.out l[k].2.1 w h)
        subst hz
        have hki : (k : Int) < (l.length : Int) := by omega
        obtain ⟨q, hq⟩ : ∃ q, q = l[k] := ⟨_, rfl⟩
        rw [← hq] at hna HH HR2 HRo HFd
        subst e1
        clear hq HSk
        have HNa := Lib.hid hna
        obtain ⟨n0, n1, n2, n3, n4, n5⟩ := hna
        rcases hr : rootR q.2.1 with _ | _
        · rw [hr] at HRo
          obtain ⟨j, hj, e2, e3⟩ := HH.out.2 hr
          rw [e2] at HFd
          have HR3 : Hid (R = stF l (l.length + 1 - (s + 1)) l[j]) := by show _ = _; rw [HR2.out, e3]; congr 1; omega
          clear HH e2 e3 HR2 hr
          obtain ⟨⟨q1, q2⟩, ⟨q3, q4⟩, q5, q6⟩ := q
          go_wp2_with fail
          refine (HRo.out _).mono ?_
          rintro e w6 ⟨rfl, hb⟩
          replace HB := bel_tr HB hb
          obtain ⟨m0, m1, m2, m3, m4, m5⟩ := HNa.out.keep hb
          clear hb HRo n0 n1 n2 n3 n4 n5 HNa
          go_wp2_with fail
          refine (HFd.out _ (HX.out.keep HB.out)).mono ?_
          rintro e w7 ⟨rfl, hb⟩
          replace HB := bel_tr HB hb
          clear hb HFd m0 m1 m2 m3 m4 m5
          go_wp2_with fail
          go_roundw
          case rel => exact ⟨j, s + 1, hj, by omega, rfl, by go_num, HB, HR3⟩
          case measure => simp [intOf]; omega
        · rw [hr] at HRo
          have HR3 : Hid (R = true) := HR2.out.trans (HH.out.1 hr)
          clear HH HR2 hr
          obtain ⟨⟨q1, q2⟩, ⟨q3, q4⟩, q5, q6⟩ := q
          go_wp2_with fail
          refine (HRo.out _).mono ?_
          rintro e w6 ⟨rfl, hb⟩
          replace HB := bel_tr HB hb
          clear hb HRo
          go_wp2_with fail
          go_ret
          exact ⟨by rw [HR3.out]; rfl, HB.out⟩
      · have hz2 : (z != 0) = true := by simpa using hz
        have HR3 : Hid (R = false) := HR2.out.trans (HSk.out.1 hz)
        clear HSk HR2 hz
        go_wp2_with fail
        go_ret
        exact ⟨by rw [HR3.out]; rfl, HB.out⟩
    · obtain rfl : s = l.length + 1 := by omega
      have hend : ¬ (l.length : Int) + 1 ≤ (l.length : Int) := by omega
      have HR3 : Hid (R = false) := by show _ = _; rw [HR.out, Nat.sub_self]; rfl
      clear HR
      go_wp2_with fail
      go_ret
      exact ⟨by rw [HR3.out]; rfl, HB.out⟩
set_option maxRecDepth 100000 in
set_option maxHeartbeats 4000000 in
theorem whole_ref (l : List Nt) (hv : validS l = true) (a : Option Addr) (c : Nat) (w : World) (hq32 : ∀ x ∈ l, i32 x.2.2.2) (hx : RowN w a l) (hlx : l.length ≤ 1000000) :
    Calls Tryd.prog 14 #[.slice a l.length c] w fun e w' => ∃ v, e = .returned v ∧ ON w' w.heap.size 37 v (wholeS l) ∧ Below w.heap.size w w' := by
  have HF := Lib.hid (fun (k : Nat) hk w h => stands_ref l hv k hk a c w hq32 h hlx)
  have HX := Lib.hid hx
  have hli : (l.length : Int) ≤ 1000000 := by omega
  have HLn := Lib.hid hlx
  clear hq32 hx hlx
  go_enter Tryd.func14, Tryd.ntmps14
  go_wp2_with fail
  go_loopw [3, 4] (fun v i wr => ∃ k : Nat, k ≤ l.length ∧ i = .int .i64 (k : Int) ∧ Hid (Below w.heap.size w wr) ∧ Hid (ON wr w.heap.size 37 v (wholeT l k))) (fun _ i _ => l.length - (intOf i).toNat)
  case atStart => exact ⟨0, Nat.zero_le _, rfl, Below.refl _ _, ON.nil _ _ _⟩
  case round =>
    obtain ⟨k, hk, rfl, HB, HO⟩ := hrel
    by_cases hlt : k < l.length
    · have hi0 : (k : Int) < (l.length : Int) := by omega
      have HT1 := Lib.hid (whole_hit hlt)
      have HT0 := Lib.hid (whole_miss hlt)
      have HKl : Hid ((wholeT l k).length ≤ 1000000) := by show _ ≤ _; have := wholeT_len l k; have := HLn.out; omega
      have HC := Lib.hid (HF.out k hlt wr (HX.out.keep HB.out))
      obtain ⟨b1, o1, e1, hna⟩ := na_of (HX.out.keep HB.out) k hlt
      have hix := ixN b1 o1 l.length c k (k : Int) rfl hlt
      obtain ⟨st, hst⟩ : ∃ st, st = stS l l[k] := ⟨_, rfl⟩
      rw [← hst] at HC HT1 HT0
      obtain ⟨q, hq⟩ : ∃ q, q = l[k] := ⟨_, rfl⟩
      rw [← hq] at hna HT1
      subst e1
      have HNa := Lib.hid hna
      clear hq hst hna
      go_wp2_with fail
      refine HC.out.mono ?_
      rintro e w5 ⟨rfl, hb⟩
      replace HB := bel_tr HB hb
      replace HO := Lib.hid (HO.out.below hb)
      replace HNa := Lib.hid (HNa.out.keep hb)
      clear hb HC
      rcases st with _ | _
      · have HT := Lib.hid (HT0.out rfl)
        clear HT0 HT1 HNa
        go_wp2_with fail
        go_roundw
        case rel => exact ⟨k + 1, by omega, by go_num, HB, by show ON _ _ _ _ _; rw [HT.out]; exact HO.out⟩
        case measure => simp [intOf]; omega
      · have HT := Lib.hid (HT1.out rfl)
        have hb2 := bel_box w5 (.cells (nc q) 37)
        have HB2 := bel_tr HB hb2
        have HO2 := Lib.hid (HO.out.below hb2)
        have HBs : Hid (w.heap.size ≤ (w5.alloc (.cells (nc q) 37)).heap.size) := HB2.out.size
        have HLt : Hid (RowN (w5.alloc (.cells (nc q) 37)) (some ⟨w5.heap.size, 0, none⟩) [q]) := RowN.lit w5 [q] (nc q) _ _ rfl
        obtain ⟨n0, n1, n2, n3, n4, n5⟩ := HNa.out
        clear hb2 HT0 HT1 HNa
        obtain ⟨⟨q1, q2⟩, ⟨q3, q4⟩, q5, q6⟩ := q
        go_wp2_with (at_builtin; refine wpList_appN rfl _ _ _ rfl Tryd.underlying22 infoN _ _ rfl HO2.out (some ⟨w5.heap.size, 0, none⟩) [((q1, q2), (q3, q4), q5, q6)] 1 1 rfl rfl HLt.out (fun h => by cases h) (by have := HKl.out; simp only [List.length_cons, List.length_nil]; omega) HBs.out ?_; intro v' w' ho' hg' hgr')
        have HO7 : Hid (ON w' w.heap.size 37 v' (wholeT l (k + 1))) := by show ON _ _ _ _ _; rw [HT.out]; exact ho'
        have HB7 := Lib.hid (HB2.out.grown hg' HB2.out.size (fun x hx => (HO2.out.lt x hx).1))
        clear ho' hg' hgr' n0 n1 n2 n3 n4 n5
        go_wp2_with fail
        go_roundw
        case rel => exact ⟨k + 1, by omega, by go_num, HB7, HO7⟩
        case measure => simp [intOf]; omega
    · obtain rfl : k = l.length := by omega
      have hend : ¬ (l.length : Int) < (l.length : Int) := by omega
      have HO4 : Hid (ON wr w.heap.size 37 u3 (wholeS l)) := by
        have := HO.out
        rw [whole_all] at this
        exact this
      clear HO
      go_wp2_with fail
      go_ret
      exact ⟨_, rfl, HO4.out, HB.out⟩
end Go.Proofs.YtodjccfaipkpfaaDoor.Fo
end
