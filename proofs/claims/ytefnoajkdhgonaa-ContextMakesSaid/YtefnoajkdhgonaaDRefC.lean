/-
  The reference's With.
-/
import Derived.Test.YtefnoajkdhgonaaDCut
namespace Go.Proofs.Ytefnoajkdhgonaa.D
set_option linter.unusedVariables false
open Go.RowKit V Go.Sort

set_option maxRecDepth 100000 in
set_option maxHeartbeats 1000000 in
theorem with_ref (s : List Dt) (d : Dt) (a : Option Addr) (c base : Nat) (w : World) (hO : OD w base E (.slice a s.length c) s) (hbase : base ≤ w.heap.size) (hls : s.length ≤ 1099511627776) :
    Calls Try.prog 63 #[.slice a s.length c, dv d] w fun e w' => ∃ v, e = .returned v ∧ OD w' base E v (ins s d) ∧ Below w.heap.size w w' := by
  obtain ⟨hrow, -, hlc, hnil⟩ := hO.r
  have HO := Lib.hid hO
  have HR := Lib.hid hrow
  have HN := Lib.hid hnil
  have HLc := Lib.hid hlc
  have HBs := Lib.hid hbase
  have HLS := Lib.hid hls
  have hli : (s.length : Int) ≤ 1099511627776 := by omega
  obtain ⟨d1, d2⟩ := d
  have hH := fun (wx : World) (hx : RowD wx a s) => has_ref s (d1, d2) a c wx hx (by omega)
  have HH := Lib.hid hH
  clear hO hrow hlc hnil hbase hls hH
  go_enter Try.func63, Try.ntmps63
  go_wp2_with fail
  have k0 : (w.alloc (Obj.cells #[Value.int IntKind.i64 d1, Value.int IntKind.i64 d2] 38)).cell? ⟨w.heap.size, 0, none⟩ = some (.int .i64 d1) := by go_simp
  have k1 : (w.alloc (Obj.cells #[Value.int IntKind.i64 d1, Value.int IntKind.i64 d2] 38)).cell? ⟨w.heap.size, 1, none⟩ = some (.int .i64 d2) := by go_simp
  have hB : Below w.heap.size w (w.alloc (Obj.cells #[Value.int IntKind.i64 d1, Value.int IntKind.i64 d2] 38)) := (Below.refl _ _).alloc (Nat.le_refl _) _
  generalize w.alloc (Obj.cells #[Value.int IntKind.i64 d1, Value.int IntKind.i64 d2] 38) = w1 at *
  refine (HH.out w1 (HR.out.keep hB)).mono ?_
  rintro e w2 ⟨rfl, hb⟩
  have HB : Hid (Below w.heap.size w w2) := bel_tr hB hb
  have H0 : Hid (w2.cell? ⟨w.heap.size, 0, none⟩ = some (.int .i64 d1)) := (hb.cell (p := ⟨_, _, none⟩) (lt_of_cell k0)).trans k0
  have H1 : Hid (w2.cell? ⟨w.heap.size, 1, none⟩ = some (.int .i64 d2)) := (hb.cell (p := ⟨_, _, none⟩) (lt_of_cell k1)).trans k1
  clear hb hB k0 k1 HH
  clear w1
  by_cases hd : (d1, d2) ∈ s
  · rw [decide_eq_true hd]
    go_wp2_with fail
    go_ret
    have e : ins s (d1, d2) = s := by unfold ins; rw [if_pos hd]
    rw [e]
    exact ⟨_, rfl, HO.out.below HB.out, HB.out⟩
  · rw [decide_eq_false hd]
    have HI : Hid (ins s (d1, d2) = s.take (pos s (d1, d2)) ++ [(d1, d2)] ++ s.drop (pos s (d1, d2))) := by show _ = _; unfold ins; rw [if_neg hd]
    have HR2 : Hid (RowD w2 a s) := HR.out.keep HB.out
    have HPl := Lib.hid (pos_le s (d1, d2))
    clear hd
    go_wp2_with fail
    go_loopw [5] (fun i wr => ∃ k : Nat, Hid (k ≤ pos s (d1, d2)) ∧ i = .int .i64 (k : Int) ∧ Hid (Below w2.heap.size w2 wr)) (fun i _ => s.length - (intOf i).toNat)
    case atStart => exact ⟨0, Nat.zero_le _, rfl, Below.refl _ _⟩
    case round =>
      obtain ⟨k, HK, rfl, hh⟩ := hrel
      have mixed := mixed
      by_cases hlt : k < s.length
      · have hi1 : (k : Int) < (s.length : Int) := by omega
        have hg : decide ((k : Int) < (s.length : Int)) = true := by simpa using hi1
        obtain ⟨b1, o1, rfl, p0, p1⟩ := HR2.out.get hh.out k hlt
        obtain ⟨p, hp⟩ : ∃ p, p = s[k] := ⟨_, rfl⟩
        rw [← hp] at p0 p1
        have HP := Lib.hid hp
        clear hp
        have q0 := cellG ((hh.out.cell (p := ⟨_, _, none⟩) (lt_of_cell H0.out)).trans H0.out)
        have q1 := cellG ((hh.out.cell (p := ⟨_, _, none⟩) (lt_of_cell H1.out)).trans H1.out)
        replace p0 := cellG p0
        replace p1 := cellG p1
        have HL := Lib.hid (lessG p (d1, d2) wr)
        rcases hb : less p (d1, d2) with _ | _
        · have HE : Hid (k = pos s (d1, d2)) := pos_stop hlt HK.out (by rw [← HP.out]; exact hb)
          rw [hb] at HL
          clear hb
          go_wp2_with fail
          refine wp_region_quiet_grown mixed (by kernel_rfl) ?_
          repeat (first | go_big_quiet_skip | (go_big_quiet_want; go_big_quiet_op; first | go_big_quiet_on | go_big_quiet_call ((go_at_call 73; exact HL.out _ _))))
          refine wpQuiet_nil ?_
          intro _ hw'
          obtain ⟨⟨nq, osq⟩, hw''⟩ := hw'
          subst hw''
          go_wp2_with fail
          have HBz : Hid (Below w2.heap.size w2 (grow (wr.drewN nq) osq)) := bel_grown hh.out hh.out.size _ _
          generalize hwz : grow (wr.drewN nq) osq = wz at *
          clear hwz
          have hT : (s.take k).length = k := by rw [List.length_take]; have := HE.out; have := HPl.out; omega
          have hD : s.length = k + (s.drop k).length := by rw [List.length_drop]; have := HE.out; have := HPl.out; omega
          have HRP := Lib.hid ((HR2.out.keep HBz.out).take k)
          have HRS := Lib.hid (off_row (HR2.out.keep HBz.out) c k HLc.out (by omega))
          have HI2 : Hid (ins s (d1, d2) = s.take k ++ [(d1, d2)] ++ s.drop k) := by show _ = _; rw [HE.out]; exact HI.out
          have s1 := cut_lo (some ⟨b1, o1, none⟩) s.length c k (by have := HLc.out; omega)
          have s2 := cut_hi (some ⟨b1, o1, none⟩) s.length c k (s.drop k).length hD HLc.out
          have HN2 := Lib.hid (fun h => HN.out (off_none (a := (some ⟨b1, o1, none⟩)) (cap := c) (m := k) h))
          have HLP : Hid ((s.take k).length + (s.drop k).length ≤ 1099511627776) := by show _ ≤ _; have := HLS.out; omega
          have hBw : Below w.heap.size w wz := HB.out.trans (HBz.out.mono HB.out.size)
          have HBw := Lib.hid hBw
          have l0 : ∀ w3, Bel wz w3 → (Instr.loadAt 38 (.pointer (some ⟨w.heap.size, 0, none⟩))).run Try.prog w3 = .ok (.agg #[.int .i64 d1, .int .i64 d2]) w3 := fun w3 h =>
            load_dot (x := (d1, d2)) (((HBz.out.trans (Below.mono h HBz.out.size)).cell (p := ⟨_, _, none⟩) (lt_of_cell H0.out)).trans H0.out) (((HBz.out.trans (Below.mono h HBz.out.size)).cell (p := ⟨_, _, none⟩) (lt_of_cell H1.out)).trans H1.out)
          have HL0 := Lib.hid l0
          clear hBw l0 HE HI p0 p1 q0 q1 HL
          generalize off (some ⟨b1, o1, none⟩) c k = ad2 at *
          generalize s.take k = P at *
          generalize s.drop k = R at *
          obtain rfl := hT
          have HD := Lib.hid hD
          clear hD
          refine Sch.wp_region_tree (Bel wz) (.take 0 (.take 1 (.take 2 (.take 4 (.take 7 (.take 8 (.take 9 (.two 3 (.one 5 (.one 6 (.one 10 (.take 11 .done)))) 5 (.one 3 (.one 6 (.one 10 (.take 11 .done)))))))))))) (by kernel_rfl) (by kernel_rfl) ((Below.refl _ _).drew) ?_
          repeat (first
            | (refine Sch.tree_q rfl rfl (fun K hK => ?_); go_big_quiet_op; (first | refine hK _ ?_ | refine ⟨_, fun _ _ => rfl, hK _ ?_⟩); clear hK K)
            | (refine tree_load _ _ _ _ _ rfl rfl rfl rfl HL0.out rfl ?_; simp only [Act.put, List.setIfInBounds_toArray, List.set_cons_zero, List.set_cons_succ]))
          refine Sch.tree_two ?_ ?_
          · refine tree_appD _ _ _ rfl rfl rfl Try.underlying22 infoD _ [] rfl (OD.nil _ wz.heap.size _) _ P c rfl HRP.out.drew HN.out (by have := HLP.out; simp; omega) (Nat.le_refl _) ?_
            intro v1 w3 ho hg _
            have HO3 : Hid (OD w3 wz.heap.size E v1 P) := ho
            have HB3 : Hid (Bel wz w3) := ((Below.refl wz.heap.size wz).drew).grown hg (Nat.le_refl _) (fun k hk => by cases hk)
            clear ho hg
            refine ⟨HB3.out, ?_⟩
            simp only [Act.put, List.setIfInBounds_toArray, List.set_cons_zero, List.set_cons_succ]
            refine Sch.tree_e rfl rfl (fun K hK => ?_)
            go_wp2_with fail
            have HB4 : Hid (Bel wz (w3.alloc (Obj.cells #[.int .i64 d1, .int .i64 d2] 38))) := HB3.out.alloc HB3.out.size _
            have HO4 : Hid (OD (w3.alloc (Obj.cells #[.int .i64 d1, .int .i64 d2] 38)) wz.heap.size E v1 P) := HO3.out.below ((Below.refl _ _).alloc (Nat.le_refl _) _)
            refine hK _ _ HB4.out ?_
            clear hK K
            refine tree_appD _ _ _ rfl rfl rfl Try.underlying22 infoD _ _ rfl HO4.out (some ⟨w3.heap.size, 0, none⟩) [(d1, d2)] 1 rfl (lit_one w3 (d1, d2) _) (fun h => by cases h) (by have := HLP.out; simp; omega) HB4.out.size ?_
            intro v2 w5 ho hg _
            have HO5 : Hid (OD w5 wz.heap.size E v2 (P ++ [(d1, d2)])) := ho
            have HB5 : Hid (Bel wz w5) := HB4.out.grown hg HB4.out.size (fun k hk => (HO4.out.lt k hk).1)
            clear ho hg
            refine ⟨HB5.out, ?_⟩
            simp only [Act.put, List.setIfInBounds_toArray, List.set_cons_zero, List.set_cons_succ]
            refine tree_appD _ _ _ rfl rfl rfl Try.underlying22 infoD _ _ rfl HO5.out ad2 R (c - P.length) rfl (HRS.out.keep HB5.out) (fun h => by have := HN2.out h; omega) (by have := HLP.out; simp; omega) HB5.out.size ?_
            intro v3 w6 ho hg _
            have HO6 : Hid (OD w6 wz.heap.size E v3 (P ++ [(d1, d2)] ++ R)) := ho
            have HB6 : Hid (Bel wz w6) := HB5.out.grown hg HB5.out.size (fun k hk => (HO5.out.lt k hk).1)
            clear ho hg
            refine ⟨HB6.out, ?_⟩
            simp only [Act.put, List.setIfInBounds_toArray, List.set_cons_zero, List.set_cons_succ]
            refine Sch.tree_q rfl rfl (fun K hK => ?_)
            go_big_quiet_op
            refine hK _ ?_
            clear hK K
            refine Sch.tree_n ?_
            go_wp2_with fail
            go_ret
            rw [HI2.out]
            exact ⟨_, rfl, HO6.out.mono fun k hk => Nat.le_trans HBs.out (Nat.le_trans HBw.out.size (HO6.out.lt k hk).1), HBw.out.trans (HB6.out.mono HBw.out.size)⟩
          · refine Sch.tree_e rfl rfl (fun K hK => ?_)
            go_wp2_with fail
            have HB3 : Hid (Bel wz ((wz.alloc (Obj.cells #[.int .i64 d1, .int .i64 d2] 38)).drew)) := ((Below.refl _ _).alloc (Nat.le_refl _) _).drew
            have HL3 : Hid (RowD ((wz.alloc (Obj.cells #[.int .i64 d1, .int .i64 d2] 38)).drew) (some ⟨wz.heap.size, 0, none⟩) [(d1, d2)]) := (lit_one wz (d1, d2) _).drew
            refine hK _ _ HB3.out ?_
            clear hK K
            generalize hw3 : (wz.alloc (Obj.cells #[.int .i64 d1, .int .i64 d2] 38)).drew = w3 at *
            clear hw3
            refine tree_appD _ _ _ rfl rfl rfl Try.underlying22 infoD _ [] rfl (OD.nil _ wz.heap.size _) _ P c rfl (HRP.out.keep HB3.out) HN.out (by have := HLP.out; simp; omega) HB3.out.size ?_
            intro v1 w4 ho hg _
            have HO4 : Hid (OD w4 wz.heap.size E v1 P) := ho
            have HB4 : Hid (Bel wz w4) := HB3.out.grown hg HB3.out.size (fun k hk => by cases hk)
            have HL4 : Hid (RowD w4 (some ⟨wz.heap.size, 0, none⟩) [(d1, d2)]) := HL3.out.gb hg (fun b o _ h => by cases h)
            clear ho hg
            refine ⟨HB4.out, ?_⟩
            simp only [Act.put, List.setIfInBounds_toArray, List.set_cons_zero, List.set_cons_succ]
            refine tree_appD _ _ _ rfl rfl rfl Try.underlying22 infoD _ _ rfl HO4.out (some ⟨wz.heap.size, 0, none⟩) [(d1, d2)] 1 rfl HL4.out (fun h => by cases h) (by have := HLP.out; simp; omega) HB4.out.size ?_
            intro v2 w5 ho hg _
            have HO5 : Hid (OD w5 wz.heap.size E v2 (P ++ [(d1, d2)])) := ho
            have HB5 : Hid (Bel wz w5) := HB4.out.grown hg HB4.out.size (fun k hk => (HO4.out.lt k hk).1)
            clear ho hg
            refine ⟨HB5.out, ?_⟩
            simp only [Act.put, List.setIfInBounds_toArray, List.set_cons_zero, List.set_cons_succ]
            refine tree_appD _ _ _ rfl rfl rfl Try.underlying22 infoD _ _ rfl HO5.out ad2 R (c - P.length) rfl (HRS.out.keep HB5.out) (fun h => by have := HN2.out h; omega) (by have := HLP.out; simp; omega) HB5.out.size ?_
            intro v3 w6 ho hg _
            have HO6 : Hid (OD w6 wz.heap.size E v3 (P ++ [(d1, d2)] ++ R)) := ho
            have HB6 : Hid (Bel wz w6) := HB5.out.grown hg HB5.out.size (fun k hk => (HO5.out.lt k hk).1)
            clear ho hg
            refine ⟨HB6.out, ?_⟩
            simp only [Act.put, List.setIfInBounds_toArray, List.set_cons_zero, List.set_cons_succ]
            refine Sch.tree_q rfl rfl (fun K hK => ?_)
            go_big_quiet_op
            refine hK _ ?_
            clear hK K
            refine Sch.tree_n ?_
            go_wp2_with fail
            go_ret
            rw [HI2.out]
            exact ⟨_, rfl, HO6.out.mono fun k hk => Nat.le_trans HBs.out (Nat.le_trans HBw.out.size (HO6.out.lt k hk).1), HBw.out.trans (HB6.out.mono HBw.out.size)⟩
        · rw [hb] at HL
          have HK2 := Lib.hid (pos_go hlt HK.out (by rw [← HP.out]; exact hb))
          clear hb
          go_wp2_with fail
          refine wp_region_quiet_grown mixed (by kernel_rfl) ?_
          repeat (first | go_big_quiet_skip | (go_big_quiet_want; go_big_quiet_op; first | go_big_quiet_on | go_big_quiet_call ((go_at_call 73; exact HL.out _ _))))
          refine wpQuiet_nil ?_
          intro _ hw'
          obtain ⟨⟨nq, osq⟩, hw''⟩ := hw'
          subst hw''
          go_wp2_with fail
          go_roundw
          case rel => exact ⟨k + 1, HK2, by go_num, bel_grown hh.out hh.out.size _ _⟩
          case measure => simp [intOf]; omega
      · have hi1 : ¬ (k : Int) < (s.length : Int) := by omega
        have hg : decide ((k : Int) < (s.length : Int)) = false := by simpa using hi1
        have HE : Hid (k = pos s (d1, d2)) := pos_end (by have := HK.out; have := HPl.out; omega) HK.out
        go_wp2_with fail
        go_quiet (fail)
        go_wp2_with fail
        have HBz : Hid (Below w2.heap.size w2 (wr.drewN nq)) := bel_drewN hh.out _
        generalize hwz : wr.drewN nq = wz at *
        clear hwz
        have hT : (s.take k).length = k := by rw [List.length_take]; have := HE.out; have := HPl.out; omega
        have hD : s.length = k + (s.drop k).length := by rw [List.length_drop]; have := HE.out; have := HPl.out; omega
        have HRP := Lib.hid ((HR2.out.keep HBz.out).take k)
        have HRS := Lib.hid (off_row (HR2.out.keep HBz.out) c k HLc.out (by omega))
        have HI2 : Hid (ins s (d1, d2) = s.take k ++ [(d1, d2)] ++ s.drop k) := by show _ = _; rw [HE.out]; exact HI.out
        have s1 := cut_lo a s.length c k (by have := HLc.out; omega)
        have s2 := cut_hi a s.length c k (s.drop k).length hD HLc.out
        have HN2 := Lib.hid (fun h => HN.out (off_none (a := a) (cap := c) (m := k) h))
        have HLP : Hid ((s.take k).length + (s.drop k).length ≤ 1099511627776) := by show _ ≤ _; have := HLS.out; omega
        have hBw : Below w.heap.size w wz := HB.out.trans (HBz.out.mono HB.out.size)
        have HBw := Lib.hid hBw
        have l0 : ∀ w3, Bel wz w3 → (Instr.loadAt 38 (.pointer (some ⟨w.heap.size, 0, none⟩))).run Try.prog w3 = .ok (.agg #[.int .i64 d1, .int .i64 d2]) w3 := fun w3 h =>
          load_dot (x := (d1, d2)) (((HBz.out.trans (Below.mono h HBz.out.size)).cell (p := ⟨_, _, none⟩) (lt_of_cell H0.out)).trans H0.out) (((HBz.out.trans (Below.mono h HBz.out.size)).cell (p := ⟨_, _, none⟩) (lt_of_cell H1.out)).trans H1.out)
        have HL0 := Lib.hid l0
        clear hBw l0 HE HI 
        generalize off a c k = ad2 at *
        generalize s.take k = P at *
        generalize s.drop k = R at *
        obtain rfl := hT
        have HD := Lib.hid hD
        clear hD
        refine Sch.wp_region_tree (Bel wz) (.take 0 (.take 1 (.take 2 (.take 4 (.take 7 (.take 8 (.take 9 (.two 3 (.one 5 (.one 6 (.one 10 (.take 11 .done)))) 5 (.one 3 (.one 6 (.one 10 (.take 11 .done)))))))))))) (by kernel_rfl) (by kernel_rfl) ((Below.refl _ _).drew) ?_
        repeat (first
          | (refine Sch.tree_q rfl rfl (fun K hK => ?_); go_big_quiet_op; (first | refine hK _ ?_ | refine ⟨_, fun _ _ => rfl, hK _ ?_⟩); clear hK K)
          | (refine tree_load _ _ _ _ _ rfl rfl rfl rfl HL0.out rfl ?_; simp only [Act.put, List.setIfInBounds_toArray, List.set_cons_zero, List.set_cons_succ]))
        refine Sch.tree_two ?_ ?_
        · refine tree_appD _ _ _ rfl rfl rfl Try.underlying22 infoD _ [] rfl (OD.nil _ wz.heap.size _) _ P c rfl HRP.out.drew HN.out (by have := HLP.out; simp; omega) (Nat.le_refl _) ?_
          intro v1 w3 ho hg _
          have HO3 : Hid (OD w3 wz.heap.size E v1 P) := ho
          have HB3 : Hid (Bel wz w3) := ((Below.refl wz.heap.size wz).drew).grown hg (Nat.le_refl _) (fun k hk => by cases hk)
          clear ho hg
          refine ⟨HB3.out, ?_⟩
          simp only [Act.put, List.setIfInBounds_toArray, List.set_cons_zero, List.set_cons_succ]
          refine Sch.tree_e rfl rfl (fun K hK => ?_)
          go_wp2_with fail
          have HB4 : Hid (Bel wz (w3.alloc (Obj.cells #[.int .i64 d1, .int .i64 d2] 38))) := HB3.out.alloc HB3.out.size _
          have HO4 : Hid (OD (w3.alloc (Obj.cells #[.int .i64 d1, .int .i64 d2] 38)) wz.heap.size E v1 P) := HO3.out.below ((Below.refl _ _).alloc (Nat.le_refl _) _)
          refine hK _ _ HB4.out ?_
          clear hK K
          refine tree_appD _ _ _ rfl rfl rfl Try.underlying22 infoD _ _ rfl HO4.out (some ⟨w3.heap.size, 0, none⟩) [(d1, d2)] 1 rfl (lit_one w3 (d1, d2) _) (fun h => by cases h) (by have := HLP.out; simp; omega) HB4.out.size ?_
          intro v2 w5 ho hg _
          have HO5 : Hid (OD w5 wz.heap.size E v2 (P ++ [(d1, d2)])) := ho
          have HB5 : Hid (Bel wz w5) := HB4.out.grown hg HB4.out.size (fun k hk => (HO4.out.lt k hk).1)
          clear ho hg
          refine ⟨HB5.out, ?_⟩
          simp only [Act.put, List.setIfInBounds_toArray, List.set_cons_zero, List.set_cons_succ]
          refine tree_appD _ _ _ rfl rfl rfl Try.underlying22 infoD _ _ rfl HO5.out ad2 R (c - P.length) rfl (HRS.out.keep HB5.out) (fun h => by have := HN2.out h; omega) (by have := HLP.out; simp; omega) HB5.out.size ?_
          intro v3 w6 ho hg _
          have HO6 : Hid (OD w6 wz.heap.size E v3 (P ++ [(d1, d2)] ++ R)) := ho
          have HB6 : Hid (Bel wz w6) := HB5.out.grown hg HB5.out.size (fun k hk => (HO5.out.lt k hk).1)
          clear ho hg
          refine ⟨HB6.out, ?_⟩
          simp only [Act.put, List.setIfInBounds_toArray, List.set_cons_zero, List.set_cons_succ]
          refine Sch.tree_q rfl rfl (fun K hK => ?_)
          go_big_quiet_op
          refine hK _ ?_
          clear hK K
          refine Sch.tree_n ?_
          go_wp2_with fail
          go_ret
          rw [HI2.out]
          exact ⟨_, rfl, HO6.out.mono fun k hk => Nat.le_trans HBs.out (Nat.le_trans HBw.out.size (HO6.out.lt k hk).1), HBw.out.trans (HB6.out.mono HBw.out.size)⟩
        · refine Sch.tree_e rfl rfl (fun K hK => ?_)
          go_wp2_with fail
          have HB3 : Hid (Bel wz ((wz.alloc (Obj.cells #[.int .i64 d1, .int .i64 d2] 38)).drew)) := ((Below.refl _ _).alloc (Nat.le_refl _) _).drew
          have HL3 : Hid (RowD ((wz.alloc (Obj.cells #[.int .i64 d1, .int .i64 d2] 38)).drew) (some ⟨wz.heap.size, 0, none⟩) [(d1, d2)]) := (lit_one wz (d1, d2) _).drew
          refine hK _ _ HB3.out ?_
          clear hK K
          generalize hw3 : (wz.alloc (Obj.cells #[.int .i64 d1, .int .i64 d2] 38)).drew = w3 at *
          clear hw3
          refine tree_appD _ _ _ rfl rfl rfl Try.underlying22 infoD _ [] rfl (OD.nil _ wz.heap.size _) _ P c rfl (HRP.out.keep HB3.out) HN.out (by have := HLP.out; simp; omega) HB3.out.size ?_
          intro v1 w4 ho hg _
          have HO4 : Hid (OD w4 wz.heap.size E v1 P) := ho
          have HB4 : Hid (Bel wz w4) := HB3.out.grown hg HB3.out.size (fun k hk => by cases hk)
          have HL4 : Hid (RowD w4 (some ⟨wz.heap.size, 0, none⟩) [(d1, d2)]) := HL3.out.gb hg (fun b o _ h => by cases h)
          clear ho hg
          refine ⟨HB4.out, ?_⟩
          simp only [Act.put, List.setIfInBounds_toArray, List.set_cons_zero, List.set_cons_succ]
          refine tree_appD _ _ _ rfl rfl rfl Try.underlying22 infoD _ _ rfl HO4.out (some ⟨wz.heap.size, 0, none⟩) [(d1, d2)] 1 rfl HL4.out (fun h => by cases h) (by have := HLP.out; simp; omega) HB4.out.size ?_
          intro v2 w5 ho hg _
          have HO5 : Hid (OD w5 wz.heap.size E v2 (P ++ [(d1, d2)])) := ho
          have HB5 : Hid (Bel wz w5) := HB4.out.grown hg HB4.out.size (fun k hk => (HO4.out.lt k hk).1)
          clear ho hg
          refine ⟨HB5.out, ?_⟩
          simp only [Act.put, List.setIfInBounds_toArray, List.set_cons_zero, List.set_cons_succ]
          refine tree_appD _ _ _ rfl rfl rfl Try.underlying22 infoD _ _ rfl HO5.out ad2 R (c - P.length) rfl (HRS.out.keep HB5.out) (fun h => by have := HN2.out h; omega) (by have := HLP.out; simp; omega) HB5.out.size ?_
          intro v3 w6 ho hg _
          have HO6 : Hid (OD w6 wz.heap.size E v3 (P ++ [(d1, d2)] ++ R)) := ho
          have HB6 : Hid (Bel wz w6) := HB5.out.grown hg HB5.out.size (fun k hk => (HO5.out.lt k hk).1)
          clear ho hg
          refine ⟨HB6.out, ?_⟩
          simp only [Act.put, List.setIfInBounds_toArray, List.set_cons_zero, List.set_cons_succ]
          refine Sch.tree_q rfl rfl (fun K hK => ?_)
          go_big_quiet_op
          refine hK _ ?_
          clear hK K
          refine Sch.tree_n ?_
          go_wp2_with fail
          go_ret
          rw [HI2.out]
          exact ⟨_, rfl, HO6.out.mono fun k hk => Nat.le_trans HBs.out (Nat.le_trans HBw.out.size (HO6.out.lt k hk).1), HBw.out.trans (HB6.out.mono HBw.out.size)⟩
end Go.Proofs.Ytefnoajkdhgonaa.D
