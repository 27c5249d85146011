/-
  The law IndexFinds.
-/
import Derived.Test.YteojbekkbgcmnabIxKn
import Derived.Test.YteojbekkbgcmnabIxQ
import Derived.Test.YteojbekkbgcmnabMQAsk
namespace Go.Proofs.Yteojbekkbgcmnab.Un
set_option linter.unusedVariables false
open Go.RowKit V Go.Shelf Go.Sort D Nd Qs Wk Ix
attribute [local irreducible] Sch.heldN Sch.stepV Sch.stepE

set_option maxRecDepth 100000 in
set_option maxHeartbeats 16000000 in
theorem finds_law (l : List Nt) (i : Int) (d : Dt) (a : Option Addr) (c : Nat) (w : World) (hi : ∀ x ∈ l, i32 x.2.2.2) (hx : RowN w a l) :
    Calls Try.prog 4 #[.slice a l.length c, .int .i64 i, dv d] w fun e w' => e = .returned (.bool true) ∧ Below w.heap.size w w' := by
  have HB := Lib.hid (bel_box w (.cells #[.int .i64 d.1, .int .i64 d.2] 34))
  by_cases hbig : 40 < l.length
  · have hg : (40 : Int) < (l.length : Int) := by omega
    go_enter Try.func4, Try.ntmps4
    go_wp2_with fail
    refine (knownI_any _).mono ?_
    rintro e w99 ⟨rfl, hb⟩
    replace HB := Lib.hid (bel_tr HB.out hb)
    clear hb
    go_wp2_with fail
    go_ret
    exact ⟨rfl, HB.out⟩
  have hle : l.length ≤ 40 := by omega
  have hng : ¬ (40 : Int) < (l.length : Int) := by omega
  have HD := Lib.hid (bd_new w d)
  have HX := Lib.hid (hx.keep HB.out)
  have HLe := Lib.hid hle
  have HVl := Lib.hid (fun w h => validS_ref l a c w hi h (by omega))
  rcases hv : validS l with _ | _
  · rw [hv] at HVl
    have HS := Lib.hid (fun w h => sees_true l i zeroN 2 a c w h (by omega) (at_no hv i))
    have HO := Lib.hid (fun w h => ofI_true l d 0 2 a c w h (by omega) (of_no hv d))
    have HF := Lib.hid (fun w h => befI_true l d 0 2 a c w h (by omega) (bef_no hv d))
    clear hv hbig hi hx hle
    go_enter Try.func4, Try.ntmps4
    go_wp2_with fail
    generalize w.alloc (.cells #[.int .i64 d.1, .int .i64 d.2] 34) = w1 at *
    refine (HVl.out _ HX.out).mono ?_
    rintro e w11 ⟨rfl, hb⟩
    replace HB := Lib.hid (bel_tr HB.out hb)
    replace HX := Lib.hid (HX.out.keep hb)
    replace HD := Lib.hid (HD.out.keep hb)
    clear hb
    go_wp2_with fail
    refine (HS.out _ HX.out).mono ?_
    rintro e w12 ⟨rfl, hb⟩
    replace HB := Lib.hid (bel_tr HB.out hb)
    replace HX := Lib.hid (HX.out.keep hb)
    replace HD := Lib.hid (HD.out.keep hb)
    clear hb
    have c0 := HD.out.c0
    have c1 := HD.out.c1
    go_wp2_with fail
    refine (HO.out _ HX.out).mono ?_
    rintro e w13 ⟨rfl, hb⟩
    replace HB := Lib.hid (bel_tr HB.out hb)
    replace HX := Lib.hid (HX.out.keep hb)
    replace HD := Lib.hid (HD.out.keep hb)
    clear hb
    clear c0 c1
    have c0 := HD.out.c0
    have c1 := HD.out.c1
    go_wp2_with fail
    refine (HF.out _ HX.out).mono ?_
    rintro e w14 ⟨rfl, hb⟩
    replace HB := Lib.hid (bel_tr HB.out hb)
    clear hb
    clear c0 c1
    go_wp2_with fail
    refine (knownI_any _).mono ?_
    rintro e w99 ⟨rfl, hb⟩
    replace HB := Lib.hid (bel_tr HB.out hb)
    clear hb
    go_wp2_with fail
    go_ret
    exact ⟨rfl, HB.out⟩
  rw [hv] at HVl
  have HVr := Lib.hid (fun w h => visR_ref l hv (by omega) a c w h)
  have HVn : Hid ((visS l).length ≤ 40) := by have := vis_len hv; show _ ≤ _; omega
  have HSo := Lib.hid (fun h w hh => sees_true l i zeroN 3 a c w hh (by omega) (at_out hv (i := i) h))
  have HSi := Lib.hid (fun (k : Nat) (h : k < (visS l).length) w hh => sees_true l (k : Int) (visS l)[k] 0 a c w hh (by omega) (at_in hv (k := k) h))
  have HVd := Lib.hid (fun w => valid_ref d w)
  have HOb := Lib.hid (fun h w hh => ofI_true l d 0 2 a c w hh (by omega) (of_bad hv (d := d) h))
  have HFb := Lib.hid (fun h w hh => befI_true l d 0 2 a c w hh (by omega) (bef_bad hv (d := d) h))
  have HOr := Lib.hid (fun w h => ofR_ref l d hv (by omega) a c w h)
  have HFr := Lib.hid (fun w h => befR_ref l d hv (by omega) a c w h)
  have HOi := Lib.hid (fun h h2 w hh => ofI_true l d (idxS (visS l) d) 0 a c w hh (by omega) (of_in hv (d := d) h h2))
  have HOo := Lib.hid (fun h h2 w hh => ofI_true l d 0 9 a c w hh (by omega) (of_out hv (d := d) h h2))
  have HFi := Lib.hid (fun h h2 w hh => befI_true l d (befR l d) 0 a c w hh (by omega) (bef_in hv (d := d) h h2))
  have HFo := Lib.hid (fun h h2 w hh => befI_true l d 0 9 a c w hh (by omega) (bef_out hv (d := d) h h2))
  clear hv hbig hi hx hle
  generalize idxS (visS l) d = ko at *
  generalize befR l d = kf at *
  generalize visS l = V at *
  generalize validR d = vd at *
  go_enter Try.func4, Try.ntmps4
  go_wp2_with fail
  generalize w.alloc (.cells #[.int .i64 d.1, .int .i64 d.2] 34) = w1 at *
  refine (HVl.out _ HX.out).mono ?_
  rintro e w15 ⟨rfl, hb⟩
  replace HB := Lib.hid (bel_tr HB.out hb)
  replace HX := Lib.hid (HX.out.keep hb)
  replace HD := Lib.hid (HD.out.keep hb)
  clear hb
  go_wp2_with fail
  refine (HVr.out _ HX.out).mono ?_
  rintro e w6 ⟨v6, rfl, ho, hb⟩
  obtain ⟨a6, c6, rfl, hr6, -⟩ := ON.row ho
  have HW := Lib.hid hr6
  replace HB := Lib.hid (bel_tr HB.out hb)
  replace HX := Lib.hid (HX.out.keep hb)
  replace HD := Lib.hid (HD.out.keep hb)
  clear ho hb hr6 HVr HVl
  have hvn : (V.length : Int) ≤ 40 := by have := HVn.out; omega
  by_cases hi0 : i < 0
  · have hd0 : decide (i < 0) = true := decide_eq_true hi0
    have HS := Lib.hid (HSo.out (by omega))
    clear HSo HSi HW
    go_wp2_with fail
    refine (HS.out _ HX.out).mono ?_
    rintro e w16 ⟨rfl, hb⟩
    replace HB := Lib.hid (bel_tr HB.out hb)
    replace HX := Lib.hid (HX.out.keep hb)
    replace HD := Lib.hid (HD.out.keep hb)
    clear hb
    have c0 := HD.out.c0
    have c1 := HD.out.c1
    go_wp2_with fail
    refine (HVd.out _).mono ?_
    rintro e w17 ⟨rfl, hb⟩
    replace HB := Lib.hid (bel_tr HB.out hb)
    replace HX := Lib.hid (HX.out.keep hb)
    replace HD := Lib.hid (HD.out.keep hb)
    clear hb
    clear c0 c1 HS
    rcases vd with _ | _
    · have HO := Lib.hid (HOb.out (by first | rfl | trivial))
      have HF := Lib.hid (HFb.out (by first | rfl | trivial))
      clear HOi HOo HFi HFo HOr HFr
      have c0 := HD.out.c0
      have c1 := HD.out.c1
      go_wp2_with fail
      refine (HO.out _ HX.out).mono ?_
      rintro e w18 ⟨rfl, hb⟩
      replace HB := Lib.hid (bel_tr HB.out hb)
      replace HX := Lib.hid (HX.out.keep hb)
      replace HD := Lib.hid (HD.out.keep hb)
      clear hb
      clear c0 c1
      have c0 := HD.out.c0
      have c1 := HD.out.c1
      go_wp2_with fail
      refine (HF.out _ HX.out).mono ?_
      rintro e w19 ⟨rfl, hb⟩
      replace HB := Lib.hid (bel_tr HB.out hb)
      clear hb
      clear c0 c1
      go_wp2_with fail
      refine (knownI_any _).mono ?_
      rintro e w99 ⟨rfl, hb⟩
      replace HB := Lib.hid (bel_tr HB.out hb)
      clear hb
      go_wp2_with fail
      go_ret
      exact ⟨rfl, HB.out⟩
    · have c0 := HD.out.c0
      have c1 := HD.out.c1
      go_wp2_with fail
      refine (HOr.out _ HX.out).mono ?_
      rintro e w20 ⟨rfl, hb⟩
      replace HB := Lib.hid (bel_tr HB.out hb)
      replace HX := Lib.hid (HX.out.keep hb)
      replace HD := Lib.hid (HD.out.keep hb)
      clear hb
      clear c0 c1
      by_cases hk0 : ko < 0
      · have hk1 : decide (ko < 0) = true := decide_eq_true hk0
        have hk2 : decide ((0 : Int) ≤ ko) = false := decide_eq_false (by omega)
        have HO := Lib.hid (HOo.out (by first | rfl | trivial) hk0)
        have c0 := HD.out.c0
        have c1 := HD.out.c1
        go_wp2_with fail
        refine (HO.out _ HX.out).mono ?_
        rintro e w21 ⟨rfl, hb⟩
        replace HB := Lib.hid (bel_tr HB.out hb)
        replace HX := Lib.hid (HX.out.keep hb)
        replace HD := Lib.hid (HD.out.keep hb)
        clear hb
        clear c0 c1 HO
        have c0 := HD.out.c0
        have c1 := HD.out.c1
        go_wp2_with fail
        refine (HFr.out _ HX.out).mono ?_
        rintro e w22 ⟨rfl, hb⟩
        replace HB := Lib.hid (bel_tr HB.out hb)
        replace HX := Lib.hid (HX.out.keep hb)
        replace HD := Lib.hid (HD.out.keep hb)
        clear hb
        clear c0 c1
        by_cases hf0 : kf < 0
        · have hf1 : decide (kf < 0) = true := decide_eq_true hf0
          have hf2 : decide ((0 : Int) ≤ kf) = false := decide_eq_false (by omega)
          have HF := Lib.hid (HFo.out (by first | rfl | trivial) hf0)
          have c0 := HD.out.c0
          have c1 := HD.out.c1
          go_wp2_with fail
          refine (HF.out _ HX.out).mono ?_
          rintro e w23 ⟨rfl, hb⟩
          replace HB := Lib.hid (bel_tr HB.out hb)
          clear hb
          clear c0 c1
          go_wp2_with fail
          refine (knownI_any _).mono ?_
          rintro e w99 ⟨rfl, hb⟩
          replace HB := Lib.hid (bel_tr HB.out hb)
          clear hb
          go_wp2_with fail
          go_ret
          exact ⟨rfl, HB.out⟩
        · have hf1 : decide (kf < 0) = false := decide_eq_false hf0
          have hf2 : decide ((0 : Int) ≤ kf) = true := decide_eq_true (by omega)
          have HF := Lib.hid (HFi.out (by first | rfl | trivial) (by omega))
          have c0 := HD.out.c0
          have c1 := HD.out.c1
          go_wp2_with fail
          refine (HF.out _ HX.out).mono ?_
          rintro e w24 ⟨rfl, hb⟩
          replace HB := Lib.hid (bel_tr HB.out hb)
          clear hb
          clear c0 c1
          go_wp2_with fail
          refine (knownI_any _).mono ?_
          rintro e w99 ⟨rfl, hb⟩
          replace HB := Lib.hid (bel_tr HB.out hb)
          clear hb
          go_wp2_with fail
          go_ret
          exact ⟨rfl, HB.out⟩
      · have hk1 : decide (ko < 0) = false := decide_eq_false hk0
        have hk2 : decide ((0 : Int) ≤ ko) = true := decide_eq_true (by omega)
        have HO := Lib.hid (HOi.out (by first | rfl | trivial) (by omega))
        have c0 := HD.out.c0
        have c1 := HD.out.c1
        go_wp2_with fail
        refine (HO.out _ HX.out).mono ?_
        rintro e w25 ⟨rfl, hb⟩
        replace HB := Lib.hid (bel_tr HB.out hb)
        replace HX := Lib.hid (HX.out.keep hb)
        replace HD := Lib.hid (HD.out.keep hb)
        clear hb
        clear c0 c1 HO
        have c0 := HD.out.c0
        have c1 := HD.out.c1
        go_wp2_with fail
        refine (HFr.out _ HX.out).mono ?_
        rintro e w26 ⟨rfl, hb⟩
        replace HB := Lib.hid (bel_tr HB.out hb)
        replace HX := Lib.hid (HX.out.keep hb)
        replace HD := Lib.hid (HD.out.keep hb)
        clear hb
        clear c0 c1
        by_cases hf0 : kf < 0
        · have hf1 : decide (kf < 0) = true := decide_eq_true hf0
          have hf2 : decide ((0 : Int) ≤ kf) = false := decide_eq_false (by omega)
          have HF := Lib.hid (HFo.out (by first | rfl | trivial) hf0)
          have c0 := HD.out.c0
          have c1 := HD.out.c1
          go_wp2_with fail
          refine (HF.out _ HX.out).mono ?_
          rintro e w27 ⟨rfl, hb⟩
          replace HB := Lib.hid (bel_tr HB.out hb)
          clear hb
          clear c0 c1
          go_wp2_with fail
          refine (knownI_any _).mono ?_
          rintro e w99 ⟨rfl, hb⟩
          replace HB := Lib.hid (bel_tr HB.out hb)
          clear hb
          go_wp2_with fail
          go_ret
          exact ⟨rfl, HB.out⟩
        · have hf1 : decide (kf < 0) = false := decide_eq_false hf0
          have hf2 : decide ((0 : Int) ≤ kf) = true := decide_eq_true (by omega)
          have HF := Lib.hid (HFi.out (by first | rfl | trivial) (by omega))
          have c0 := HD.out.c0
          have c1 := HD.out.c1
          go_wp2_with fail
          refine (HF.out _ HX.out).mono ?_
          rintro e w28 ⟨rfl, hb⟩
          replace HB := Lib.hid (bel_tr HB.out hb)
          clear hb
          clear c0 c1
          go_wp2_with fail
          refine (knownI_any _).mono ?_
          rintro e w99 ⟨rfl, hb⟩
          replace HB := Lib.hid (bel_tr HB.out hb)
          clear hb
          go_wp2_with fail
          go_ret
          exact ⟨rfl, HB.out⟩
  have hd0 : decide (i < 0) = false := decide_eq_false hi0
  by_cases hi1 : i < (V.length : Int)
  · have hd1 : decide ((V.length : Int) ≤ i) = false := decide_eq_false (by omega)
    obtain ⟨k, rfl⟩ : ∃ k : Nat, i = (k : Int) := ⟨i.toNat, by omega⟩
    have hk : k < V.length := by omega
    have HS := Lib.hid (HSi.out k hk)
    obtain ⟨b6, o6, rfl, hna⟩ := na_of HW.out k hk
    have hix := ixN b6 o6 V.length c6 k (k : Int) rfl hk
    obtain ⟨q, hq⟩ : ∃ q, q = V[k] := ⟨_, rfl⟩
    rw [← hq] at hna HS
    clear hq HSo HSi HW
    obtain ⟨n0, n1, n2, n3, n4, n5⟩ := hna
    obtain ⟨⟨q1, q2⟩, ⟨q3, q4⟩, q5, q6⟩ := q
    go_wp2_with fail
    refine (HS.out _ HX.out).mono ?_
    rintro e w29 ⟨rfl, hb⟩
    replace HB := Lib.hid (bel_tr HB.out hb)
    replace HX := Lib.hid (HX.out.keep hb)
    replace HD := Lib.hid (HD.out.keep hb)
    clear hb
    clear n0 n1 n2 n3 n4 n5 hix hk
    have c0 := HD.out.c0
    have c1 := HD.out.c1
    go_wp2_with fail
    refine (HVd.out _).mono ?_
    rintro e w30 ⟨rfl, hb⟩
    replace HB := Lib.hid (bel_tr HB.out hb)
    replace HX := Lib.hid (HX.out.keep hb)
    replace HD := Lib.hid (HD.out.keep hb)
    clear hb
    clear c0 c1 HS
    rcases vd with _ | _
    · have HO := Lib.hid (HOb.out (by first | rfl | trivial))
      have HF := Lib.hid (HFb.out (by first | rfl | trivial))
      clear HOi HOo HFi HFo HOr HFr
      have c0 := HD.out.c0
      have c1 := HD.out.c1
      go_wp2_with fail
      refine (HO.out _ HX.out).mono ?_
      rintro e w31 ⟨rfl, hb⟩
      replace HB := Lib.hid (bel_tr HB.out hb)
      replace HX := Lib.hid (HX.out.keep hb)
      replace HD := Lib.hid (HD.out.keep hb)
      clear hb
      clear c0 c1
      have c0 := HD.out.c0
      have c1 := HD.out.c1
      go_wp2_with fail
      refine (HF.out _ HX.out).mono ?_
      rintro e w32 ⟨rfl, hb⟩
      replace HB := Lib.hid (bel_tr HB.out hb)
      clear hb
      clear c0 c1
      go_wp2_with fail
      refine (knownI_any _).mono ?_
      rintro e w99 ⟨rfl, hb⟩
      replace HB := Lib.hid (bel_tr HB.out hb)
      clear hb
      go_wp2_with fail
      go_ret
      exact ⟨rfl, HB.out⟩
    · have c0 := HD.out.c0
      have c1 := HD.out.c1
      go_wp2_with fail
      refine (HOr.out _ HX.out).mono ?_
      rintro e w33 ⟨rfl, hb⟩
      replace HB := Lib.hid (bel_tr HB.out hb)
      replace HX := Lib.hid (HX.out.keep hb)
      replace HD := Lib.hid (HD.out.keep hb)
      clear hb
      clear c0 c1
      by_cases hk0 : ko < 0
      · have hk1 : decide (ko < 0) = true := decide_eq_true hk0
        have hk2 : decide ((0 : Int) ≤ ko) = false := decide_eq_false (by omega)
        have HO := Lib.hid (HOo.out (by first | rfl | trivial) hk0)
        have c0 := HD.out.c0
        have c1 := HD.out.c1
        go_wp2_with fail
        refine (HO.out _ HX.out).mono ?_
        rintro e w34 ⟨rfl, hb⟩
        replace HB := Lib.hid (bel_tr HB.out hb)
        replace HX := Lib.hid (HX.out.keep hb)
        replace HD := Lib.hid (HD.out.keep hb)
        clear hb
        clear c0 c1 HO
        have c0 := HD.out.c0
        have c1 := HD.out.c1
        go_wp2_with fail
        refine (HFr.out _ HX.out).mono ?_
        rintro e w35 ⟨rfl, hb⟩
        replace HB := Lib.hid (bel_tr HB.out hb)
        replace HX := Lib.hid (HX.out.keep hb)
        replace HD := Lib.hid (HD.out.keep hb)
        clear hb
        clear c0 c1
        by_cases hf0 : kf < 0
        · have hf1 : decide (kf < 0) = true := decide_eq_true hf0
          have hf2 : decide ((0 : Int) ≤ kf) = false := decide_eq_false (by omega)
          have HF := Lib.hid (HFo.out (by first | rfl | trivial) hf0)
          have c0 := HD.out.c0
          have c1 := HD.out.c1
          go_wp2_with fail
          refine (HF.out _ HX.out).mono ?_
          rintro e w36 ⟨rfl, hb⟩
          replace HB := Lib.hid (bel_tr HB.out hb)
          clear hb
          clear c0 c1
          go_wp2_with fail
          refine (knownI_any _).mono ?_
          rintro e w99 ⟨rfl, hb⟩
          replace HB := Lib.hid (bel_tr HB.out hb)
          clear hb
          go_wp2_with fail
          go_ret
          exact ⟨rfl, HB.out⟩
        · have hf1 : decide (kf < 0) = false := decide_eq_false hf0
          have hf2 : decide ((0 : Int) ≤ kf) = true := decide_eq_true (by omega)
          have HF := Lib.hid (HFi.out (by first | rfl | trivial) (by omega))
          have c0 := HD.out.c0
          have c1 := HD.out.c1
          go_wp2_with fail
          refine (HF.out _ HX.out).mono ?_
          rintro e w37 ⟨rfl, hb⟩
          replace HB := Lib.hid (bel_tr HB.out hb)
          clear hb
          clear c0 c1
          go_wp2_with fail
          refine (knownI_any _).mono ?_
          rintro e w99 ⟨rfl, hb⟩
          replace HB := Lib.hid (bel_tr HB.out hb)
          clear hb
          go_wp2_with fail
          go_ret
          exact ⟨rfl, HB.out⟩
      · have hk1 : decide (ko < 0) = false := decide_eq_false hk0
        have hk2 : decide ((0 : Int) ≤ ko) = true := decide_eq_true (by omega)
        have HO := Lib.hid (HOi.out (by first | rfl | trivial) (by omega))
        have c0 := HD.out.c0
        have c1 := HD.out.c1
        go_wp2_with fail
        refine (HO.out _ HX.out).mono ?_
        rintro e w38 ⟨rfl, hb⟩
        replace HB := Lib.hid (bel_tr HB.out hb)
        replace HX := Lib.hid (HX.out.keep hb)
        replace HD := Lib.hid (HD.out.keep hb)
        clear hb
        clear c0 c1 HO
        have c0 := HD.out.c0
        have c1 := HD.out.c1
        go_wp2_with fail
        refine (HFr.out _ HX.out).mono ?_
        rintro e w39 ⟨rfl, hb⟩
        replace HB := Lib.hid (bel_tr HB.out hb)
        replace HX := Lib.hid (HX.out.keep hb)
        replace HD := Lib.hid (HD.out.keep hb)
        clear hb
        clear c0 c1
        by_cases hf0 : kf < 0
        · have hf1 : decide (kf < 0) = true := decide_eq_true hf0
          have hf2 : decide ((0 : Int) ≤ kf) = false := decide_eq_false (by omega)
          have HF := Lib.hid (HFo.out (by first | rfl | trivial) hf0)
          have c0 := HD.out.c0
          have c1 := HD.out.c1
          go_wp2_with fail
          refine (HF.out _ HX.out).mono ?_
          rintro e w40 ⟨rfl, hb⟩
          replace HB := Lib.hid (bel_tr HB.out hb)
          clear hb
          clear c0 c1
          go_wp2_with fail
          refine (knownI_any _).mono ?_
          rintro e w99 ⟨rfl, hb⟩
          replace HB := Lib.hid (bel_tr HB.out hb)
          clear hb
          go_wp2_with fail
          go_ret
          exact ⟨rfl, HB.out⟩
        · have hf1 : decide (kf < 0) = false := decide_eq_false hf0
          have hf2 : decide ((0 : Int) ≤ kf) = true := decide_eq_true (by omega)
          have HF := Lib.hid (HFi.out (by first | rfl | trivial) (by omega))
          have c0 := HD.out.c0
          have c1 := HD.out.c1
          go_wp2_with fail
          refine (HF.out _ HX.out).mono ?_
          rintro e w41 ⟨rfl, hb⟩
          replace HB := Lib.hid (bel_tr HB.out hb)
          clear hb
          clear c0 c1
          go_wp2_with fail
          refine (knownI_any _).mono ?_
          rintro e w99 ⟨rfl, hb⟩
          replace HB := Lib.hid (bel_tr HB.out hb)
          clear hb
          go_wp2_with fail
          go_ret
          exact ⟨rfl, HB.out⟩
  · have hd1 : decide ((V.length : Int) ≤ i) = true := decide_eq_true (by omega)
    have HS := Lib.hid (HSo.out (by omega))
    clear HSo HSi HW
    go_wp2_with fail
    refine (HS.out _ HX.out).mono ?_
    rintro e w42 ⟨rfl, hb⟩
    replace HB := Lib.hid (bel_tr HB.out hb)
    replace HX := Lib.hid (HX.out.keep hb)
    replace HD := Lib.hid (HD.out.keep hb)
    clear hb
    have c0 := HD.out.c0
    have c1 := HD.out.c1
    go_wp2_with fail
    refine (HVd.out _).mono ?_
    rintro e w43 ⟨rfl, hb⟩
    replace HB := Lib.hid (bel_tr HB.out hb)
    replace HX := Lib.hid (HX.out.keep hb)
    replace HD := Lib.hid (HD.out.keep hb)
    clear hb
    clear c0 c1 HS
    rcases vd with _ | _
    · have HO := Lib.hid (HOb.out (by first | rfl | trivial))
      have HF := Lib.hid (HFb.out (by first | rfl | trivial))
      clear HOi HOo HFi HFo HOr HFr
      have c0 := HD.out.c0
      have c1 := HD.out.c1
      go_wp2_with fail
      refine (HO.out _ HX.out).mono ?_
      rintro e w44 ⟨rfl, hb⟩
      replace HB := Lib.hid (bel_tr HB.out hb)
      replace HX := Lib.hid (HX.out.keep hb)
      replace HD := Lib.hid (HD.out.keep hb)
      clear hb
      clear c0 c1
      have c0 := HD.out.c0
      have c1 := HD.out.c1
      go_wp2_with fail
      refine (HF.out _ HX.out).mono ?_
      rintro e w45 ⟨rfl, hb⟩
      replace HB := Lib.hid (bel_tr HB.out hb)
      clear hb
      clear c0 c1
      go_wp2_with fail
      refine (knownI_any _).mono ?_
      rintro e w99 ⟨rfl, hb⟩
      replace HB := Lib.hid (bel_tr HB.out hb)
      clear hb
      go_wp2_with fail
      go_ret
      exact ⟨rfl, HB.out⟩
    · have c0 := HD.out.c0
      have c1 := HD.out.c1
      go_wp2_with fail
      refine (HOr.out _ HX.out).mono ?_
      rintro e w46 ⟨rfl, hb⟩
      replace HB := Lib.hid (bel_tr HB.out hb)
      replace HX := Lib.hid (HX.out.keep hb)
      replace HD := Lib.hid (HD.out.keep hb)
      clear hb
      clear c0 c1
      by_cases hk0 : ko < 0
      · have hk1 : decide (ko < 0) = true := decide_eq_true hk0
        have hk2 : decide ((0 : Int) ≤ ko) = false := decide_eq_false (by omega)
        have HO := Lib.hid (HOo.out (by first | rfl | trivial) hk0)
        have c0 := HD.out.c0
        have c1 := HD.out.c1
        go_wp2_with fail
        refine (HO.out _ HX.out).mono ?_
        rintro e w47 ⟨rfl, hb⟩
        replace HB := Lib.hid (bel_tr HB.out hb)
        replace HX := Lib.hid (HX.out.keep hb)
        replace HD := Lib.hid (HD.out.keep hb)
        clear hb
        clear c0 c1 HO
        have c0 := HD.out.c0
        have c1 := HD.out.c1
        go_wp2_with fail
        refine (HFr.out _ HX.out).mono ?_
        rintro e w48 ⟨rfl, hb⟩
        replace HB := Lib.hid (bel_tr HB.out hb)
        replace HX := Lib.hid (HX.out.keep hb)
        replace HD := Lib.hid (HD.out.keep hb)
        clear hb
        clear c0 c1
        by_cases hf0 : kf < 0
        · have hf1 : decide (kf < 0) = true := decide_eq_true hf0
          have hf2 : decide ((0 : Int) ≤ kf) = false := decide_eq_false (by omega)
          have HF := Lib.hid (HFo.out (by first | rfl | trivial) hf0)
          have c0 := HD.out.c0
          have c1 := HD.out.c1
          go_wp2_with fail
          refine (HF.out _ HX.out).mono ?_
          rintro e w49 ⟨rfl, hb⟩
          replace HB := Lib.hid (bel_tr HB.out hb)
          clear hb
          clear c0 c1
          go_wp2_with fail
          refine (knownI_any _).mono ?_
          rintro e w99 ⟨rfl, hb⟩
          replace HB := Lib.hid (bel_tr HB.out hb)
          clear hb
          go_wp2_with fail
          go_ret
          exact ⟨rfl, HB.out⟩
        · have hf1 : decide (kf < 0) = false := decide_eq_false hf0
          have hf2 : decide ((0 : Int) ≤ kf) = true := decide_eq_true (by omega)
          have HF := Lib.hid (HFi.out (by first | rfl | trivial) (by omega))
          have c0 := HD.out.c0
          have c1 := HD.out.c1
          go_wp2_with fail
          refine (HF.out _ HX.out).mono ?_
          rintro e w50 ⟨rfl, hb⟩
          replace HB := Lib.hid (bel_tr HB.out hb)
          clear hb
          clear c0 c1
          go_wp2_with fail
          refine (knownI_any _).mono ?_
          rintro e w99 ⟨rfl, hb⟩
          replace HB := Lib.hid (bel_tr HB.out hb)
          clear hb
          go_wp2_with fail
          go_ret
          exact ⟨rfl, HB.out⟩
      · have hk1 : decide (ko < 0) = false := decide_eq_false hk0
        have hk2 : decide ((0 : Int) ≤ ko) = true := decide_eq_true (by omega)
        have HO := Lib.hid (HOi.out (by first | rfl | trivial) (by omega))
        have c0 := HD.out.c0
        have c1 := HD.out.c1
        go_wp2_with fail
        refine (HO.out _ HX.out).mono ?_
        rintro e w51 ⟨rfl, hb⟩
        replace HB := Lib.hid (bel_tr HB.out hb)
        replace HX := Lib.hid (HX.out.keep hb)
        replace HD := Lib.hid (HD.out.keep hb)
        clear hb
        clear c0 c1 HO
        have c0 := HD.out.c0
        have c1 := HD.out.c1
        go_wp2_with fail
        refine (HFr.out _ HX.out).mono ?_
        rintro e w52 ⟨rfl, hb⟩
        replace HB := Lib.hid (bel_tr HB.out hb)
        replace HX := Lib.hid (HX.out.keep hb)
        replace HD := Lib.hid (HD.out.keep hb)
        clear hb
        clear c0 c1
        by_cases hf0 : kf < 0
        · have hf1 : decide (kf < 0) = true := decide_eq_true hf0
          have hf2 : decide ((0 : Int) ≤ kf) = false := decide_eq_false (by omega)
          have HF := Lib.hid (HFo.out (by first | rfl | trivial) hf0)
          have c0 := HD.out.c0
          have c1 := HD.out.c1
          go_wp2_with fail
          refine (HF.out _ HX.out).mono ?_
          rintro e w53 ⟨rfl, hb⟩
          replace HB := Lib.hid (bel_tr HB.out hb)
          clear hb
          clear c0 c1
          go_wp2_with fail
          refine (knownI_any _).mono ?_
          rintro e w99 ⟨rfl, hb⟩
          replace HB := Lib.hid (bel_tr HB.out hb)
          clear hb
          go_wp2_with fail
          go_ret
          exact ⟨rfl, HB.out⟩
        · have hf1 : decide (kf < 0) = false := decide_eq_false hf0
          have hf2 : decide ((0 : Int) ≤ kf) = true := decide_eq_true (by omega)
          have HF := Lib.hid (HFi.out (by first | rfl | trivial) (by omega))
          have c0 := HD.out.c0
          have c1 := HD.out.c1
          go_wp2_with fail
          refine (HF.out _ HX.out).mono ?_
          rintro e w54 ⟨rfl, hb⟩
          replace HB := Lib.hid (bel_tr HB.out hb)
          clear hb
          clear c0 c1
          go_wp2_with fail
          refine (knownI_any _).mono ?_
          rintro e w99 ⟨rfl, hb⟩
          replace HB := Lib.hid (bel_tr HB.out hb)
          clear hb
          go_wp2_with fail
          go_ret
          exact ⟨rfl, HB.out⟩
end Go.Proofs.Yteojbekkbgcmnab.Un
