/-
  The law WalkPaths.
-/
import Derived.Test.YteojbekkbgcmnaaGreatMWKnG
import Derived.Test.YteojbekkbgcmnaaGreatWPX
import Derived.Test.YteojbekkbgcmnaaGreatWRfL
namespace Go.Proofs.YteojbekkbgcmnaaGreat.Un
set_option linter.unusedVariables false
open Go.RowKit V Go.Shelf D Nd Qs Wk
attribute [local irreducible] Sch.heldN Sch.stepV Sch.stepE

theorem path_rootP (l : List Nt) : pathP l (0, 0) = ([], 2) := by
  unfold pathP
  rw [if_neg (by rw [show validR (0, 0) = false from rfl]; simp)]
theorem path_none {l : List Nt} {d : Dt} (hv : validS l = true) (hd : validR d = true) (hr : rootR d = false) (h : pathR l d = none) : pathP l d = ([], 9) ∧ belowP l d = ([], 9) := by
  have hq : pathQ l d = none := by unfold pathQ; rw [if_neg (by rw [hr]; decide)]; exact h
  refine ⟨?_, ?_⟩
  · unfold pathP
    rw [if_pos (by rw [hv, hd]; rfl), hq]
    rfl
  · unfold belowP belowQ
    rw [if_pos (by rw [hv, hd]; simp), if_neg (by rw [hr]; decide), hq]
theorem path_some {l : List Nt} {d : Dt} {p : List Dt} (hv : validS l = true) (hd : validR d = true) (hr : rootR d = false) (h : pathR l d = some p) : pathP l d = (p, 0) ∧ belowP l d = (dotsB l d, 0) ∧ Pt l d p ∧ p.length ≤ l.length := by
  have hq : pathQ l d = some p := by unfold pathQ; rw [if_neg (by rw [hr]; decide)]; exact h
  have hp : Pt l d p := ⟨_, h⟩
  refine ⟨?_, ?_, hp, pt_len hp⟩
  · unfold pathP
    rw [if_pos (by rw [hv, hd]; rfl), hq]
    rfl
  · unfold belowP belowQ
    rw [if_pos (by rw [hv, hd]; simp), if_neg (by rw [hr]; decide), hq]
/-- The box of the dot, in the worlds behind one. -/
def Kd (w5 : World) (g : Nat) (d : Dt) (w : World) : Prop := Below w5.heap.size w5 w ∧ Bd w g d
theorem Kd.keep {w5 : World} {g : Nat} {d : Dt} {w w' : World} (h : Kd w5 g d w) (hb : Below w.heap.size w w') : Kd w5 g d w' := ⟨bel_tr h.1 hb, h.2.keep hb⟩
theorem Kd.l {w5 : World} {g : Nat} {d : Dt} : ∀ w, Kd w5 g d w → (Instr.loadAt 24 (.pointer (some ⟨g, 0, none⟩))).run Tryz.prog w = .ok (dv d) w := fun w h => load_dotB h.2
set_option maxRecDepth 100000 in
set_option maxHeartbeats 8000000 in
theorem paths_law (l : List Nt) (d : Dt) (a : Option Addr) (c : Nat) (w : World) (hi : ∀ x ∈ l, i32 x.2.2.2) (hx : RowN w a l) :
    Calls Tryz.prog 3 #[.slice a l.length c, dv d] w fun e w' => e = .returned (.bool true) ∧ Below w.heap.size w w' := by
  have HKn := Lib.hid (fun w => known_any w)
  have HB := Lib.hid (bel_box w (.cells #[.int .i64 d.1, .int .i64 d.2] 24))
  by_cases hbig : 40 < l.length
  · have hg : (40 : Int) < (l.length : Int) := by omega
    go_enter Tryz.func3, Tryz.ntmps3
    go_wp2_with fail
    refine (HKn.out _).mono ?_
    rintro e w99 ⟨rfl, hb⟩
    replace HB := Lib.hid (bel_tr HB.out hb)
    clear hb HKn
    go_wp2_with fail
    go_ret
    exact ⟨rfl, HB.out⟩
  have hle : l.length ≤ 40 := by omega
  have hng : ¬ (40 : Int) < (l.length : Int) := by omega
  have HD := Lib.hid (bd_new w d)
  have HX := Lib.hid (hx.keep HB.out)
  have HLe := Lib.hid hle
  have HVl := Lib.hid (fun w h => validS_ref l a c w hi h (by omega))
  have HPn := Lib.hid (fun q h w hh => path_true l d a c [] q none 0 w hh (by omega) h (.inl rfl) (by decide))
  have HBn := Lib.hid (fun q h w hh => below_true l d a c [] q none 0 w hh (by omega) h (.inl rfl) (by decide))
  clear hbig hi hx hle
  rcases hv : validS l with _ | _
  · rw [hv] at HVl
    have HLn := Lib.hid (fun w h => lost_true l a c [] 2 none 0 w h (by have := HLe.out; omega) (by unfold lostP; rw [hv]; rfl) (.inl rfl) (by decide))
    replace HPn := Lib.hid (HPn.out 2 (by unfold pathP; rw [hv]; rfl))
    replace HBn := Lib.hid (HBn.out 2 (by unfold belowP; rw [hv]; rfl))
    clear hv
    go_enter Tryz.func3, Tryz.ntmps3
    go_wp2_with fail
    generalize w.alloc (.cells #[.int .i64 d.1, .int .i64 d.2] 24) = w1 at *
    refine (HVl.out _ HX.out).mono ?_
    rintro e w2 ⟨rfl, hb⟩
    replace HB := Lib.hid (bel_tr HB.out hb)
    replace HX := Lib.hid (HX.out.keep hb)
    replace HD := Lib.hid (HD.out.keep hb)
    clear hb HVl
    go_wp2_with fail
    refine (HLn.out _ HX.out).mono ?_
    rintro e w11 ⟨rfl, hb⟩
    replace HB := Lib.hid (bel_tr HB.out hb)
    replace HX := Lib.hid (HX.out.keep hb)
    replace HD := Lib.hid (HD.out.keep hb)
    clear hb
    have c0 := HD.out.c0
    have c1 := HD.out.c1
    go_wp2_with fail
    refine (HPn.out _ HX.out).mono ?_
    rintro e w12 ⟨rfl, hb⟩
    replace HB := Lib.hid (bel_tr HB.out hb)
    replace HX := Lib.hid (HX.out.keep hb)
    replace HD := Lib.hid (HD.out.keep hb)
    clear hb
    clear c0 c1
    have c0 := HD.out.c0
    have c1 := HD.out.c1
    go_wp2_with fail
    refine (HBn.out _ HX.out).mono ?_
    rintro e w13 ⟨rfl, hb⟩
    replace HB := Lib.hid (bel_tr HB.out hb)
    clear hb
    clear c0 c1
    go_wp2_with fail
    refine (HKn.out _).mono ?_
    rintro e w99 ⟨rfl, hb⟩
    replace HB := Lib.hid (bel_tr HB.out hb)
    clear hb HKn
    go_wp2_with fail
    go_ret
    exact ⟨rfl, HB.out⟩
  rw [hv] at HVl
  have HLo : Hid (lostP l = (lostS l, 0)) := by show _ = _; unfold lostP; rw [if_pos hv]
  have HLl : Hid ((lostS l).length ≤ 40) := by have h1 := both_len hv; have := HLe.out; show _ ≤ _; omega
  have HOl : Hid ((orderS l).length ≤ 40) := by have h1 := both_len hv; have := HLe.out; show _ ≤ _; omega
  have HLt := Lib.hid (fun aW cW w h h2 => lost_true l a c (lostS l) 0 aW cW w h (by have := HLe.out; omega) HLo.out h2 (by have := HLl.out; omega))
  have HLr := Lib.hid (fun w h => lost_ref l a c w h (by have := HLe.out; omega))
  have HOc := Lib.hid (fun w h => order_ref l hv (by have := HLe.out; omega) a c w h)
  have HNo := Lib.hid (fun aW cW w h => names_any (orderS l) aW cW w h (by have := HOl.out; omega))
  have HBr := Lib.hid (fun aW cW w h h2 => below_true l (0, 0) a c ((orderS l).map (·.1)) 0 aW cW w h (by have := HLe.out; omega) (by rw [root_valid, if_pos hv]) h2 (by rw [List.length_map]; have := HOl.out; omega))
  have HPr := Lib.hid (fun w h => path_true l (0, 0) a c [] 2 none 0 w h (by have := HLe.out; omega) (path_rootP l) (.inl rfl) (by decide))
  rw [List.length_map] at HBr
  clear HLo
  generalize lostS l = G at *
  have HPc := Lib.hid (fun w h => path_ref l d a c w h (by have := HLe.out; omega))
  have HRo := Lib.hid (fun w => root_ref d w)
  have HVd := Lib.hid (fun w => valid_ref d w)
  have HNv : Hid (validR d = false → rootR d = false → pathP l d = ([], 2) ∧ belowP l d = ([], 2)) := fun h h2 => ⟨by unfold pathP; rw [if_neg (by rw [h]; simp)], by unfold belowP; rw [if_neg (by rw [h, h2]; simp)]⟩
  have HNn : Hid (validR d = true → rootR d = false → pathR l d = none → pathP l d = ([], 9) ∧ belowP l d = ([], 9)) := fun h h2 h3 => path_none hv h h2 h3
  have HSm : Hid (∀ p, validR d = true → rootR d = false → pathR l d = some p → pathP l d = (p, 0) ∧ belowP l d = (dotsB l d, 0) ∧ Pt l d p ∧ p.length ≤ l.length) := fun p h h2 h3 => path_some hv h h2 h3
  have HVv := Lib.hid hv
  clear hv
  generalize hO : orderS l = O at *
  clear hO
  go_enter Tryz.func3, Tryz.ntmps3
  go_wp2_with fail
  generalize w.alloc (.cells #[.int .i64 d.1, .int .i64 d.2] 24) = w1 at *
  refine (HVl.out _ HX.out).mono ?_
  rintro e w2 ⟨rfl, hb⟩
  replace HB := Lib.hid (bel_tr HB.out hb)
  replace HX := Lib.hid (HX.out.keep hb)
  replace HD := Lib.hid (HD.out.keep hb)
  clear hb HVl
  go_wp2_with fail
  refine (HLr.out _ HX.out).mono ?_
  rintro e w3 ⟨v3, rfl, ho, hb⟩
  obtain ⟨a3, c3, rfl, hr3, -⟩ := OD.row ho
  have HW := Lib.hid hr3
  replace HB := Lib.hid (bel_tr HB.out hb)
  replace HX := Lib.hid (HX.out.keep hb)
  replace HD := Lib.hid (HD.out.keep hb)
  clear hb ho hr3 HLr
  go_wp2_with fail
  refine (HLt.out a3 c3 _ HX.out HW.out).mono ?_
  rintro e w14 ⟨rfl, hb⟩
  replace HB := Lib.hid (bel_tr HB.out hb)
  replace HX := Lib.hid (HX.out.keep hb)
  replace HD := Lib.hid (HD.out.keep hb)
  clear hb
  clear HW HLt
  go_wp2_with fail
  refine (HOc.out _ HX.out).mono ?_
  rintro e w4 ⟨v4, rfl, ho, hb⟩
  obtain ⟨a4, c4, rfl, hr4, -⟩ := ON.row ho
  have HW := Lib.hid hr4
  replace HB := Lib.hid (bel_tr HB.out hb)
  replace HX := Lib.hid (HX.out.keep hb)
  replace HD := Lib.hid (HD.out.keep hb)
  clear hb ho hr4 HOc
  go_wp2_with fail
  refine (HNo.out _ _ _ HW.out).mono ?_
  rintro e w5 ⟨v5, rfl, ho, hb⟩
  obtain ⟨a5, c5, rfl, hr5, -⟩ := OD.row ho
  have HY := Lib.hid hr5
  replace HB := Lib.hid (bel_tr HB.out hb)
  replace HX := Lib.hid (HX.out.keep hb)
  replace HD := Lib.hid (HD.out.keep hb)
  clear hb ho hr5 HNo HW
  rw [List.length_map]
  go_wp2_with fail
  refine (HBr.out a5 c5 _ HX.out HY.out).mono ?_
  rintro e w15 ⟨rfl, hb⟩
  replace HB := Lib.hid (bel_tr HB.out hb)
  replace HX := Lib.hid (HX.out.keep hb)
  replace HD := Lib.hid (HD.out.keep hb)
  clear hb
  clear HY HBr
  go_wp2_with fail
  refine (HPr.out _ HX.out).mono ?_
  rintro e w16 ⟨rfl, hb⟩
  replace HB := Lib.hid (bel_tr HB.out hb)
  replace HX := Lib.hid (HX.out.keep hb)
  replace HD := Lib.hid (HD.out.keep hb)
  clear hb
  clear HPr
  have c0 := HD.out.c0
  have c1 := HD.out.c1
  go_wp2_with fail
  refine (HRo.out _).mono ?_
  rintro e w17 ⟨rfl, hb⟩
  replace HB := Lib.hid (bel_tr HB.out hb)
  replace HX := Lib.hid (HX.out.keep hb)
  replace HD := Lib.hid (HD.out.keep hb)
  clear hb
  clear HRo c0 c1
  rcases hr : rootR d with _ | _
  · have c0 := HD.out.c0
    have c1 := HD.out.c1
    go_wp2_with fail
    refine (HVd.out _).mono ?_
    rintro e w18 ⟨rfl, hb⟩
    replace HB := Lib.hid (bel_tr HB.out hb)
    replace HX := Lib.hid (HX.out.keep hb)
    replace HD := Lib.hid (HD.out.keep hb)
    clear hb
    clear HVd c0 c1
    rcases hvd : validR d with _ | _
    · obtain ⟨h1, h2⟩ := HNv.out hvd hr
      replace HPn := Lib.hid (HPn.out 2 h1)
      replace HBn := Lib.hid (HBn.out 2 h2)
      clear h1 h2 hr hvd HNv HNn HSm HPc
      have c0 := HD.out.c0
      have c1 := HD.out.c1
      go_wp2_with fail
      refine (HPn.out _ HX.out).mono ?_
      rintro e w19 ⟨rfl, hb⟩
      replace HB := Lib.hid (bel_tr HB.out hb)
      replace HX := Lib.hid (HX.out.keep hb)
      replace HD := Lib.hid (HD.out.keep hb)
      clear hb
      clear c0 c1
      have c0 := HD.out.c0
      have c1 := HD.out.c1
      go_wp2_with fail
      refine (HBn.out _ HX.out).mono ?_
      rintro e w20 ⟨rfl, hb⟩
      replace HB := Lib.hid (bel_tr HB.out hb)
      clear hb
      clear c0 c1
      go_wp2_with fail
      refine (HKn.out _).mono ?_
      rintro e w99 ⟨rfl, hb⟩
      replace HB := Lib.hid (bel_tr HB.out hb)
      clear hb HKn
      go_wp2_with fail
      go_ret
      exact ⟨rfl, HB.out⟩
    · rcases hpr : pathR l d with _ | p
      · rw [hpr] at HPc
        obtain ⟨h1, h2⟩ := HNn.out hvd hr hpr
        replace HPn := Lib.hid (HPn.out 9 h1)
        replace HBn := Lib.hid (HBn.out 9 h2)
        clear h1 h2 hr hvd HNv HNn HSm hpr
        simp only [Option.isSome_none] at HPc
        have c0 := HD.out.c0
        have c1 := HD.out.c1
        go_wp2_with fail
        refine (HPc.out _ HX.out).mono ?_
        rintro e w8 ⟨v8, rfl, -, hb⟩
        replace HB := Lib.hid (bel_tr HB.out hb)
        replace HX := Lib.hid (HX.out.keep hb)
        replace HD := Lib.hid (HD.out.keep hb)
        clear hb HPc c0 c1
        have c0 := HD.out.c0
        have c1 := HD.out.c1
        go_wp2_with fail
        refine (HPn.out _ HX.out).mono ?_
        rintro e w21 ⟨rfl, hb⟩
        replace HB := Lib.hid (bel_tr HB.out hb)
        replace HX := Lib.hid (HX.out.keep hb)
        replace HD := Lib.hid (HD.out.keep hb)
        clear hb
        clear c0 c1
        have c0 := HD.out.c0
        have c1 := HD.out.c1
        go_wp2_with fail
        refine (HBn.out _ HX.out).mono ?_
        rintro e w22 ⟨rfl, hb⟩
        replace HB := Lib.hid (bel_tr HB.out hb)
        clear hb
        clear c0 c1
        go_wp2_with fail
        refine (HKn.out _).mono ?_
        rintro e w99 ⟨rfl, hb⟩
        replace HB := Lib.hid (bel_tr HB.out hb)
        clear hb HKn
        go_wp2_with fail
        go_ret
        exact ⟨rfl, HB.out⟩
      · rw [hpr] at HPc
        obtain ⟨h1, h2, h3, h4⟩ := HSm.out p hvd hr hpr
        simp only [Option.isSome_some, Option.getD_some] at HPc
        have hlx : l.length ≤ 40 := HLe.out
        have HPy := Lib.hid (fun aW cW w h hh => path_true l d a c p 0 aW cW w h (by omega) h1 hh (by omega))
        have HBl : Hid ((Bw l d).length ≤ 40) := by have := bw_len HVv.out h3; show _ ≤ _; omega
        have HBy := Lib.hid (fun aW cW w h hh => below_true l d a c (dotsB l d) 0 aW cW w h (by omega) h2 hh (by unfold dotsB; rw [List.length_map]; have := HBl.out; omega))
        have HBc := Lib.hid (fun w h => below_ref l HVv.out (by omega) (l.length + 1) d p h3 (by omega) a c w h)
        have HNb := Lib.hid (fun aW cW w h => names_any (Bw l d) aW cW w h (by have := HBl.out; omega))
        rw [show (Bw l d).map (·.1) = dotsB l d from rfl] at HNb
        clear h1 h2 h3 h4 hlx hr hvd HNv HNn HSm hpr HPn HBn
        have c0 := HD.out.c0
        have c1 := HD.out.c1
        go_wp2_with fail
        refine (HPc.out _ HX.out).mono ?_
        rintro e w8 ⟨v8, rfl, ho, hb⟩
        obtain ⟨a8, c8, rfl, hr8, -⟩ := OD.row ho
        have HY := Lib.hid hr8
        replace HB := Lib.hid (bel_tr HB.out hb)
        replace HX := Lib.hid (HX.out.keep hb)
        replace HD := Lib.hid (HD.out.keep hb)
        clear hb ho hr8 HPc c0 c1
        go_wp2_with fail
        have hb := (Below.refl w8.heap.size w8).drew
        replace HB := Lib.hid (bel_tr HB.out hb)
        replace HX := Lib.hid (HX.out.keep hb)
        replace HD := Lib.hid (HD.out.keep hb)
        replace HY := Lib.hid (HY.out.keep hb)
        clear hb
        have HK : Hid (Kd w8.drew w.heap.size d w8.drew) := ⟨Below.refl _ _, HD.out⟩
        refine Sch.wp_region_tn (Kd w8.drew w.heap.size d) (.val 0 (.val 1 (.val 2 (.one 3 (.val 4 (.val 5 (.val 6 (.val 7 (.val 8 (.one 9 (.one 10 (.one 11 (.val 12 (.val 13 (.one 14 (.val 15 (.val 16 .done))))))))))))))))) (by kernel_rfl) (by kernel_rfl) HK.out ?_
        repeat (first
          | (refine Sch.tn_q rfl rfl rfl (fun K hK => ?_); go_big_quiet_op; (first | refine hK _ ?_ | refine ⟨_, fun _ _ => rfl, hK _ ?_⟩); clear hK K)
          | (refine Sch.tn_chk _ _ _ rfl rfl rfl rfl rfl ?_; simp only [Act.put, List.setIfInBounds_toArray, List.set_cons_zero, List.set_cons_succ])
          | (refine Sch.tn_load _ _ _ _ _ rfl rfl rfl rfl (by first | exact Kd.l) rfl ?_; simp only [Act.put, List.setIfInBounds_toArray, List.set_cons_zero, List.set_cons_succ]))
        generalize w8.drew = w9 at *
        refine Sch.tn_e rfl rfl (fun K hK => ?_)
        go_wp2_with fail
        refine (HPy.out a8 c8 _ HX.out HY.out).mono ?_
        rintro e w10 ⟨rfl, hb⟩
        replace HB := Lib.hid (bel_tr HB.out hb)
        replace HX := Lib.hid (HX.out.keep hb)
        replace HD := Lib.hid (HD.out.keep hb)
        replace HK := Lib.hid (HK.out.keep hb)
        clear hb HPy HY
        refine hK _ _ HK.out ?_
        clear hK K
        repeat (first
          | (refine Sch.tn_q rfl rfl rfl (fun K hK => ?_); go_big_quiet_op; (first | refine hK _ ?_ | refine ⟨_, fun _ _ => rfl, hK _ ?_⟩); clear hK K)
          | (refine Sch.tn_chk _ _ _ rfl rfl rfl rfl rfl ?_; simp only [Act.put, List.setIfInBounds_toArray, List.set_cons_zero, List.set_cons_succ])
          | (refine Sch.tn_load _ _ _ _ _ rfl rfl rfl rfl (by first | exact Kd.l) rfl ?_; simp only [Act.put, List.setIfInBounds_toArray, List.set_cons_zero, List.set_cons_succ]))
        refine Sch.tn_e rfl rfl (fun K hK => ?_)
        go_wp2_with fail
        refine (HBc.out _ HX.out).mono ?_
        rintro e w11 ⟨v11, rfl, ho, hb⟩
        obtain ⟨a11, c11, rfl, hr11, -⟩ := ON.row ho
        have HY := Lib.hid hr11
        replace HB := Lib.hid (bel_tr HB.out hb)
        replace HX := Lib.hid (HX.out.keep hb)
        replace HD := Lib.hid (HD.out.keep hb)
        replace HK := Lib.hid (HK.out.keep hb)
        clear hb ho hr11 HBc
        refine hK _ _ HK.out ?_
        clear hK K
        refine Sch.tn_e rfl rfl (fun K hK => ?_)
        go_wp2_with fail
        refine (HNb.out _ _ _ HY.out).mono ?_
        rintro e w12 ⟨v12, rfl, ho, hb⟩
        obtain ⟨a12, c12, rfl, hr12, -⟩ := OD.row ho
        have HY2 := Lib.hid hr12
        replace HB := Lib.hid (bel_tr HB.out hb)
        replace HX := Lib.hid (HX.out.keep hb)
        replace HD := Lib.hid (HD.out.keep hb)
        replace HK := Lib.hid (HK.out.keep hb)
        clear hb ho hr12 HNb HY
        refine hK _ _ HK.out ?_
        clear hK K
        refine Sch.tn_e rfl rfl (fun K hK => ?_)
        go_wp2_with fail
        refine (HBy.out _ _ _ HX.out HY2.out).mono ?_
        rintro e w13 ⟨rfl, hb⟩
        replace HB := Lib.hid (bel_tr HB.out hb)
        replace HX := Lib.hid (HX.out.keep hb)
        replace HD := Lib.hid (HD.out.keep hb)
        replace HK := Lib.hid (HK.out.keep hb)
        clear hb HBy HY2
        refine hK _ _ HK.out ?_
        clear hK K
        repeat (first
          | (refine Sch.tn_q rfl rfl rfl (fun K hK => ?_); go_big_quiet_op; (first | refine hK _ ?_ | refine ⟨_, fun _ _ => rfl, hK _ ?_⟩); clear hK K)
          | (refine Sch.tn_chk _ _ _ rfl rfl rfl rfl rfl ?_; simp only [Act.put, List.setIfInBounds_toArray, List.set_cons_zero, List.set_cons_succ])
          | (refine Sch.tn_load _ _ _ _ _ rfl rfl rfl rfl (by first | exact Kd.l) rfl ?_; simp only [Act.put, List.setIfInBounds_toArray, List.set_cons_zero, List.set_cons_succ]))
        refine Sch.tn_e rfl rfl (fun K hK => ?_)
        go_wp2_with fail
        refine (HKn.out _).mono ?_
        rintro e w14 ⟨rfl, hb⟩
        replace HB := Lib.hid (bel_tr HB.out hb)
        replace HX := Lib.hid (HX.out.keep hb)
        replace HD := Lib.hid (HD.out.keep hb)
        replace HK := Lib.hid (HK.out.keep hb)
        clear hb HKn
        refine hK _ _ HK.out ?_
        clear hK K
        repeat (first
          | (refine Sch.tn_q rfl rfl rfl (fun K hK => ?_); go_big_quiet_op; (first | refine hK _ ?_ | refine ⟨_, fun _ _ => rfl, hK _ ?_⟩); clear hK K)
          | (refine Sch.tn_chk _ _ _ rfl rfl rfl rfl rfl ?_; simp only [Act.put, List.setIfInBounds_toArray, List.set_cons_zero, List.set_cons_succ])
          | (refine Sch.tn_s _ rfl rfl rfl ?_; simp only [Act.put, List.setIfInBounds_toArray, List.set_cons_zero, List.set_cons_succ])
          | (refine Sch.tn_se _ rfl rfl rfl ?_; simp only [Act.put, List.setIfInBounds_toArray, List.set_cons_zero, List.set_cons_succ]))
        refine Sch.tn_n ?_
        go_wp2_with fail
        go_ret
        exact ⟨rfl, HB.out⟩
  · clear HNv HNn HSm hr
    go_wp2_with fail
    refine (HKn.out _).mono ?_
    rintro e w99 ⟨rfl, hb⟩
    replace HB := Lib.hid (bel_tr HB.out hb)
    clear hb HKn
    go_wp2_with fail
    go_ret
    exact ⟨rfl, HB.out⟩
end Go.Proofs.YteojbekkbgcmnaaGreat.Un
