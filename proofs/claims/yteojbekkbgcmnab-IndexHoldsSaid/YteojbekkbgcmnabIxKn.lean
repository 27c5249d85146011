/-
  The examples of layer 12.
-/
import Derived.Test.YteojbekkbgcmnabIxLA
namespace Go.Proofs.Yteojbekkbgcmnab.Un
set_option linter.unusedVariables false
open Go.RowKit V Go.Shelf Go.Sort D Nd Qs Wk Ix
attribute [local irreducible] Sch.heldN Sch.stepV Sch.stepE

theorem k_text : textP ixL = ([101, 97, 98, 100], 0) := by decide +kernel
theorem k_len : lenP ixL = (4, 0) := by decide +kernel
theorem k_at2 : atP ixL 2 = (((1, 2), (1, 1), 2, 98), 0) := by decide +kernel
theorem k_at4 : atP ixL 4 = (zeroN, 3) := by decide +kernel
theorem k_of1 : ofI ixL (1, 2) = (2, 0) := by decide +kernel
theorem k_of2 : ofI ixL (2, 2) = (0, 9) := by decide +kernel
theorem k_of3 : ofI ixL (3, 4) = (0, 9) := by decide +kernel
theorem k_of4 : ofI ixL (0, 0) = (0, 2) := by decide +kernel
theorem k_b1 : befI ixL (2, 2) = (2, 0) := by decide +kernel
theorem k_b2 : befI ixL (2, 3) = (3, 0) := by decide +kernel
theorem k_b3 : befI ixL (3, 4) = (0, 9) := by decide +kernel
theorem k_l1 : leftI ixL 0 = ((0, 0), 0) := by decide +kernel
theorem k_l2 : leftI ixL 4 = ((2, 3), 0) := by decide +kernel
theorem k_l3 : leftI ixL 5 = ((0, 0), 3) := by decide +kernel
theorem k_d1 : idotsI ixL 1 3 = ([(1, 1), (1, 2)], 0) := by decide +kernel
theorem k_d2 : idotsI ixL 4 4 = ([], 0) := by decide +kernel
theorem k_d3 : idotsI ixL 3 2 = ([], 3) := by decide +kernel
theorem k_t0 : textP [] = ([], 0) := by decide +kernel
theorem k_l0 : leftI [] 0 = ((0, 0), 0) := by decide +kernel
set_option maxRecDepth 100000 in
set_option maxHeartbeats 8000000 in
theorem knownI_any (w : World) : Calls Try.prog 8 #[] w fun e w' => e = .returned (.bool true) ∧ Below w.heap.size w w' := by
  have HGi := Lib.hid (givenI_any w)
  go_enter Try.func8, Try.ntmps8
  go_wp2_with fail
  refine HGi.out.mono ?_
  rintro e w2 ⟨g, rfl, hx, hb⟩
  have hb2 := bel_two2 w2 (.cells #[.int .i64 0, .int .i64 0] 34) (.cells #[.int .i64 0, .int .i64 0, .int .i64 0, .int .i64 0, .int .i64 0, .int .i32 0] 37)
  have HX := Lib.hid (hx.keep hb2)
  have HB := Lib.hid (bel_tr hb hb2)
  have HF := Lib.hid (Fd.new (0, 0) w2)
  clear hx hb hb2 HGi
  go_wp2_with fail
  generalize hg2 : w2.heap.size = g2 at *
  generalize hw3 : (w2.alloc (.cells #[.int .i64 0, .int .i64 0] 34)).alloc (.cells #[.int .i64 0, .int .i64 0, .int .i64 0, .int .i64 0, .int .i64 0, .int .i32 0] 37) = w3 at *
  clear hg2 hw3
  go_wp2_with fail
  refine (texts_true ixL [101, 97, 98, 100] 0 (some ⟨g, 0, none⟩) 8 _ HX.out (by decide) k_text).mono ?_
  rintro e w11 ⟨rfl, hb⟩
  replace HX := Lib.hid (HX.out.keep hb)
  replace HF := Lib.hid (HF.out.keep hb)
  replace HB := Lib.hid (bel_tr HB.out hb)
  clear hb
  go_wp2_with fail
  refine (has_true ixL 4 0 (some ⟨g, 0, none⟩) 8 _ HX.out (by decide) k_len).mono ?_
  rintro e w12 ⟨rfl, hb⟩
  replace HX := Lib.hid (HX.out.keep hb)
  replace HF := Lib.hid (HF.out.keep hb)
  replace HB := Lib.hid (bel_tr HB.out hb)
  clear hb
  have hna : Na w12 g 6 ((1, 2), (1, 1), 2, 98) := by
    obtain ⟨b, o, e, h⟩ := na_of HX.out 1 (by decide)
    cases e
    exact h
  have hix := ixN g 0 8 8 1 1 rfl (by decide)
  obtain ⟨m0, m1, m2, m3, m4, m5⟩ := hna
  go_wp2_with fail
  refine (sees_true ixL 2 ((1, 2), (1, 1), 2, 98) 0 (some ⟨g, 0, none⟩) 8 _ HX.out (by decide) k_at2).mono ?_
  rintro e w13 ⟨rfl, hb⟩
  clear m0 m1 m2 m3 m4 m5 hix
  replace HX := Lib.hid (HX.out.keep hb)
  replace HF := Lib.hid (HF.out.keep hb)
  replace HB := Lib.hid (bel_tr HB.out hb)
  clear hb
  obtain ⟨⟨m0, m1, m2, m3, m4, m5⟩, -⟩ := HF.out.2.2
  go_wp2_with fail
  refine (sees_true ixL 4 zeroN 3 (some ⟨g, 0, none⟩) 8 _ HX.out (by decide) k_at4).mono ?_
  rintro e w14 ⟨rfl, hb⟩
  clear m0 m1 m2 m3 m4 m5
  replace HX := Lib.hid (HX.out.keep hb)
  replace HF := Lib.hid (HF.out.keep hb)
  replace HB := Lib.hid (bel_tr HB.out hb)
  clear hb
  go_wp2_with fail
  refine (atI_any 1 2 _).mono ?_
  rintro e w15 ⟨rfl, hb⟩
  replace HX := Lib.hid (HX.out.keep hb)
  replace HF := Lib.hid (HF.out.keep hb)
  replace HB := Lib.hid (bel_tr HB.out hb)
  clear hb
  go_wp2_with fail
  refine (ofI_true ixL (1, 2) 2 0 (some ⟨g, 0, none⟩) 8 _ HX.out (by decide) k_of1).mono ?_
  rintro e w16 ⟨rfl, hb⟩
  replace HX := Lib.hid (HX.out.keep hb)
  replace HF := Lib.hid (HF.out.keep hb)
  replace HB := Lib.hid (bel_tr HB.out hb)
  clear hb
  go_wp2_with fail
  refine (atI_any 2 2 _).mono ?_
  rintro e w17 ⟨rfl, hb⟩
  replace HX := Lib.hid (HX.out.keep hb)
  replace HF := Lib.hid (HF.out.keep hb)
  replace HB := Lib.hid (bel_tr HB.out hb)
  clear hb
  go_wp2_with fail
  refine (ofI_true ixL (2, 2) 0 9 (some ⟨g, 0, none⟩) 8 _ HX.out (by decide) k_of2).mono ?_
  rintro e w18 ⟨rfl, hb⟩
  replace HX := Lib.hid (HX.out.keep hb)
  replace HF := Lib.hid (HF.out.keep hb)
  replace HB := Lib.hid (bel_tr HB.out hb)
  clear hb
  go_wp2_with fail
  refine (atI_any 3 4 _).mono ?_
  rintro e w19 ⟨rfl, hb⟩
  replace HX := Lib.hid (HX.out.keep hb)
  replace HF := Lib.hid (HF.out.keep hb)
  replace HB := Lib.hid (bel_tr HB.out hb)
  clear hb
  go_wp2_with fail
  refine (ofI_true ixL (3, 4) 0 9 (some ⟨g, 0, none⟩) 8 _ HX.out (by decide) k_of3).mono ?_
  rintro e w20 ⟨rfl, hb⟩
  replace HX := Lib.hid (HX.out.keep hb)
  replace HF := Lib.hid (HF.out.keep hb)
  replace HB := Lib.hid (bel_tr HB.out hb)
  clear hb
  have r0 := HF.out.1
  have r1 := HF.out.2.1
  go_wp2_with fail
  refine (ofI_true ixL (0, 0) 0 2 (some ⟨g, 0, none⟩) 8 _ HX.out (by decide) k_of4).mono ?_
  rintro e w21 ⟨rfl, hb⟩
  clear r0 r1
  replace HX := Lib.hid (HX.out.keep hb)
  replace HF := Lib.hid (HF.out.keep hb)
  replace HB := Lib.hid (bel_tr HB.out hb)
  clear hb
  go_wp2_with fail
  refine (atI_any 2 2 _).mono ?_
  rintro e w22 ⟨rfl, hb⟩
  replace HX := Lib.hid (HX.out.keep hb)
  replace HF := Lib.hid (HF.out.keep hb)
  replace HB := Lib.hid (bel_tr HB.out hb)
  clear hb
  go_wp2_with fail
  refine (befI_true ixL (2, 2) 2 0 (some ⟨g, 0, none⟩) 8 _ HX.out (by decide) k_b1).mono ?_
  rintro e w23 ⟨rfl, hb⟩
  replace HX := Lib.hid (HX.out.keep hb)
  replace HF := Lib.hid (HF.out.keep hb)
  replace HB := Lib.hid (bel_tr HB.out hb)
  clear hb
  go_wp2_with fail
  refine (atI_any 2 3 _).mono ?_
  rintro e w24 ⟨rfl, hb⟩
  replace HX := Lib.hid (HX.out.keep hb)
  replace HF := Lib.hid (HF.out.keep hb)
  replace HB := Lib.hid (bel_tr HB.out hb)
  clear hb
  go_wp2_with fail
  refine (befI_true ixL (2, 3) 3 0 (some ⟨g, 0, none⟩) 8 _ HX.out (by decide) k_b2).mono ?_
  rintro e w25 ⟨rfl, hb⟩
  replace HX := Lib.hid (HX.out.keep hb)
  replace HF := Lib.hid (HF.out.keep hb)
  replace HB := Lib.hid (bel_tr HB.out hb)
  clear hb
  go_wp2_with fail
  refine (atI_any 3 4 _).mono ?_
  rintro e w26 ⟨rfl, hb⟩
  replace HX := Lib.hid (HX.out.keep hb)
  replace HF := Lib.hid (HF.out.keep hb)
  replace HB := Lib.hid (bel_tr HB.out hb)
  clear hb
  go_wp2_with fail
  refine (befI_true ixL (3, 4) 0 9 (some ⟨g, 0, none⟩) 8 _ HX.out (by decide) k_b3).mono ?_
  rintro e w27 ⟨rfl, hb⟩
  replace HX := Lib.hid (HX.out.keep hb)
  replace HF := Lib.hid (HF.out.keep hb)
  replace HB := Lib.hid (bel_tr HB.out hb)
  clear hb
  have r0 := HF.out.1
  have r1 := HF.out.2.1
  go_wp2_with fail
  refine (left_true ixL 0 (0, 0) 0 (some ⟨g, 0, none⟩) 8 _ HX.out (by decide) k_l1).mono ?_
  rintro e w28 ⟨rfl, hb⟩
  clear r0 r1
  replace HX := Lib.hid (HX.out.keep hb)
  replace HF := Lib.hid (HF.out.keep hb)
  replace HB := Lib.hid (bel_tr HB.out hb)
  clear hb
  go_wp2_with fail
  refine (atI_any 2 3 _).mono ?_
  rintro e w29 ⟨rfl, hb⟩
  replace HX := Lib.hid (HX.out.keep hb)
  replace HF := Lib.hid (HF.out.keep hb)
  replace HB := Lib.hid (bel_tr HB.out hb)
  clear hb
  go_wp2_with fail
  refine (left_true ixL 4 (2, 3) 0 (some ⟨g, 0, none⟩) 8 _ HX.out (by decide) k_l2).mono ?_
  rintro e w30 ⟨rfl, hb⟩
  replace HX := Lib.hid (HX.out.keep hb)
  replace HF := Lib.hid (HF.out.keep hb)
  replace HB := Lib.hid (bel_tr HB.out hb)
  clear hb
  have r0 := HF.out.1
  have r1 := HF.out.2.1
  go_wp2_with fail
  refine (left_true ixL 5 (0, 0) 3 (some ⟨g, 0, none⟩) 8 _ HX.out (by decide) k_l3).mono ?_
  rintro e w31 ⟨rfl, hb⟩
  clear r0 r1
  replace HX := Lib.hid (HX.out.keep hb)
  replace HF := Lib.hid (HF.out.keep hb)
  replace HB := Lib.hid (bel_tr HB.out hb)
  clear hb
  go_wp2_with fail
  refine (atI_any 1 1 _).mono ?_
  rintro e w32 ⟨rfl, hb⟩
  replace HX := Lib.hid (HX.out.keep hb)
  replace HF := Lib.hid (HF.out.keep hb)
  replace HB := Lib.hid (bel_tr HB.out hb)
  clear hb
  go_wp2_with fail
  refine (atI_any 1 2 _).mono ?_
  rintro e w33 ⟨rfl, hb⟩
  replace HX := Lib.hid (HX.out.keep hb)
  replace HF := Lib.hid (HF.out.keep hb)
  replace HB := Lib.hid (bel_tr HB.out hb)
  clear hb
  have hb := bel_box w33 (.cells ⟨[.int .i64 1, .int .i64 1, .int .i64 1, .int .i64 2]⟩ 34)
  have HR := Lib.hid (RowD.lit w33 [(1, 1), (1, 2)] ⟨[.int .i64 1, .int .i64 1, .int .i64 1, .int .i64 2]⟩ 34 (0, 0) rfl)
  replace HX := Lib.hid (HX.out.keep hb)
  replace HF := Lib.hid (HF.out.keep hb)
  replace HB := Lib.hid (bel_tr HB.out hb)
  clear hb
  go_wp2_with fail
  refine (dotsI_true ixL 1 3 [(1, 1), (1, 2)] 0 (some ⟨g, 0, none⟩) _ 8 2 _ HX.out (by decide) k_d1 HR.out (by decide)).mono ?_
  rintro e w34 ⟨rfl, hb⟩
  clear HR
  replace HX := Lib.hid (HX.out.keep hb)
  replace HF := Lib.hid (HF.out.keep hb)
  replace HB := Lib.hid (bel_tr HB.out hb)
  clear hb
  go_wp2_with fail
  refine (dotsI_true ixL 4 4 [] 0 (some ⟨g, 0, none⟩) none 8 0 _ HX.out (by decide) k_d2 (.inl rfl) (by decide)).mono ?_
  rintro e w35 ⟨rfl, hb⟩
  replace HX := Lib.hid (HX.out.keep hb)
  replace HF := Lib.hid (HF.out.keep hb)
  replace HB := Lib.hid (bel_tr HB.out hb)
  clear hb
  go_wp2_with fail
  refine (dotsI_true ixL 3 2 [] 3 (some ⟨g, 0, none⟩) none 8 0 _ HX.out (by decide) k_d3 (.inl rfl) (by decide)).mono ?_
  rintro e w36 ⟨rfl, hb⟩
  replace HX := Lib.hid (HX.out.keep hb)
  replace HF := Lib.hid (HF.out.keep hb)
  replace HB := Lib.hid (bel_tr HB.out hb)
  clear hb
  go_wp2_with fail
  refine (texts_true [] [] 0 none 0 _ (RowN.nil _ _) (by decide) k_t0).mono ?_
  rintro e w37 ⟨rfl, hb⟩
  replace HX := Lib.hid (HX.out.keep hb)
  replace HF := Lib.hid (HF.out.keep hb)
  replace HB := Lib.hid (bel_tr HB.out hb)
  clear hb
  have r0 := HF.out.1
  have r1 := HF.out.2.1
  go_wp2_with fail
  refine (left_true [] 0 (0, 0) 0 none 0 _ (RowN.nil _ _) (by decide) k_l0).mono ?_
  rintro e w38 ⟨rfl, hb⟩
  clear r0 r1
  replace HX := Lib.hid (HX.out.keep hb)
  replace HF := Lib.hid (HF.out.keep hb)
  replace HB := Lib.hid (bel_tr HB.out hb)
  clear hb
  go_wp2_with fail
  go_ret
  exact ⟨rfl, HB.out⟩
end Go.Proofs.Yteojbekkbgcmnab.Un
