/-
  The examples of the chapter.
-/
import Derived.Test.YtfemfmppjabdjaaDoorELaw
namespace Go.Proofs.YtfemfmppjabdjaaDoor.E
set_option linter.unusedVariables false
open Go.RowKit V Go.Sort D

set_option maxRecDepth 100000 in
set_option maxHeartbeats 8000000 in
theorem known_any (w0 : World) (hL : Ld w0) : Calls Tryd.prog 8 #[] w0 fun e w' => e = .returned (.bool true) ∧ Below w0.heap.size w0 w' := by
  have HLd := Lib.hid hL
  have HB : Hid (Below w0.heap.size w0 w0) := Below.refl _ _
  clear hL
  go_enter Tryd.func8, Tryd.ntmps8
  go_wp2_with fail
  refine (of5_any 1 2 _).mono ?_
  rintro e w1 ⟨rfl, hb⟩
  replace HB := bel_tr HB hb
  clear hb
  go_wp2_with fail
  refine (of5_any 3 7 _).mono ?_
  rintro e w2 ⟨rfl, hb⟩
  replace HB := bel_tr HB hb
  clear hb
  have HV := Lib.hid (RowD.lit w2 [(1, 2), (3, 7)] #[.int .i64 1, .int .i64 2, .int .i64 3, .int .i64 7] 25 (0, 0) rfl)
  have hb := bel_box w2 (.cells #[.int .i64 1, .int .i64 2, .int .i64 3, .int .i64 7] 25)
  replace HB := bel_tr HB hb
  clear hb
  go_wp2_with fail
  generalize w2.alloc (.cells #[.int .i64 1, .int .i64 2, .int .i64 3, .int .i64 7] 25) = w3 at *
  refine (of5_any 1 2 _).mono ?_
  rintro e w4 ⟨rfl, hb⟩
  replace HV := Lib.hid (HV.out.keep hb)
  replace HB := bel_tr HB hb
  clear hb
  have HO := Lib.hid (RowD.lit w4 [(1, 2)] #[.int .i64 1, .int .i64 2] 25 (0, 0) rfl)
  have hb := bel_box w4 (.cells #[.int .i64 1, .int .i64 2] 25)
  replace HV := Lib.hid (HV.out.keep hb)
  replace HB := bel_tr HB hb
  clear hb
  go_wp2_with fail
  generalize w4.alloc (.cells #[.int .i64 1, .int .i64 2] 25) = w5 at *
  refine (of5_any 3 7 _).mono ?_
  rintro e w6 ⟨rfl, hb⟩
  replace HV := Lib.hid (HV.out.keep hb)
  replace HO := Lib.hid (HO.out.keep hb)
  replace HB := bel_tr HB hb
  clear hb
  have HT := Lib.hid (RowD.lit w6 [(3, 7)] #[.int .i64 3, .int .i64 7] 25 (0, 0) rfl)
  have hb := bel_box w6 (.cells #[.int .i64 3, .int .i64 7] 25)
  replace HV := Lib.hid (HV.out.keep hb)
  replace HO := Lib.hid (HO.out.keep hb)
  replace HB := bel_tr HB hb
  clear hb
  go_wp2_with fail
  generalize w6.alloc (.cells #[.int .i64 3, .int .i64 7] 25) = w7 at *
  refine (of5_any 3 7 _).mono ?_
  rintro e w8 ⟨rfl, hb⟩
  replace HV := Lib.hid (HV.out.keep hb)
  replace HO := Lib.hid (HO.out.keep hb)
  replace HT := Lib.hid (HT.out.keep hb)
  replace HB := bel_tr HB hb
  clear hb
  go_wp2_with fail
  refine (of5_any 1 2 _).mono ?_
  rintro e w9 ⟨rfl, hb⟩
  replace HV := Lib.hid (HV.out.keep hb)
  replace HO := Lib.hid (HO.out.keep hb)
  replace HT := Lib.hid (HT.out.keep hb)
  replace HB := bel_tr HB hb
  clear hb
  go_wp2_with fail
  refine (of5_any 3 4 _).mono ?_
  rintro e w10 ⟨rfl, hb⟩
  replace HV := Lib.hid (HV.out.keep hb)
  replace HO := Lib.hid (HO.out.keep hb)
  replace HT := Lib.hid (HT.out.keep hb)
  replace HB := bel_tr HB hb
  clear hb
  have H3 := Lib.hid (RowD.lit w10 [(3, 7), (1, 2), (3, 4)] #[.int .i64 3, .int .i64 7, .int .i64 1, .int .i64 2, .int .i64 3, .int .i64 4] 25 (0, 0) rfl)
  have hb := bel_box w10 (.cells #[.int .i64 3, .int .i64 7, .int .i64 1, .int .i64 2, .int .i64 3, .int .i64 4] 25)
  replace HV := Lib.hid (HV.out.keep hb)
  replace HO := Lib.hid (HO.out.keep hb)
  replace HT := Lib.hid (HT.out.keep hb)
  replace HB := bel_tr HB hb
  clear hb
  go_wp2_with fail
  generalize w10.alloc (.cells #[.int .i64 3, .int .i64 7, .int .i64 1, .int .i64 2, .int .i64 3, .int .i64 4] 25) = w11 at *
  refine (made_true [(3, 7), (1, 2), (3, 4)] (some ⟨w10.heap.size, 0, none⟩) 3 (.slice (some ⟨w2.heap.size, 0, none⟩) 2 2) [(1, 2), (3, 7)] 0 _ H3.out (by decide) ⟨(some ⟨w2.heap.size, 0, none⟩), 2, rfl, HV.out, fun h => (by cases h), Nat.le_refl _⟩ (by decide) ex1).mono ?_
  rintro e w12 ⟨rfl, hb⟩
  replace HV := Lib.hid (HV.out.keep hb)
  replace HO := Lib.hid (HO.out.keep hb)
  replace HT := Lib.hid (HT.out.keep hb)
  replace H3 := Lib.hid (H3.out.keep hb)
  replace HB := bel_tr HB hb
  clear hb
  clear H3
  go_wp2_with fail
  refine (made_true [] none 0 (.slice none 0 0) [] 0 _ (.inl rfl) (by decide) (SV.nil _) (by decide) ex2).mono ?_
  rintro e w13 ⟨rfl, hb⟩
  replace HV := Lib.hid (HV.out.keep hb)
  replace HO := Lib.hid (HO.out.keep hb)
  replace HT := Lib.hid (HT.out.keep hb)
  replace HB := bel_tr HB hb
  clear hb
  go_wp2_with fail
  refine (of5_any 0 1 _).mono ?_
  rintro e w14 ⟨rfl, hb⟩
  replace HV := Lib.hid (HV.out.keep hb)
  replace HO := Lib.hid (HO.out.keep hb)
  replace HT := Lib.hid (HT.out.keep hb)
  replace HB := bel_tr HB hb
  clear hb
  have H4 := Lib.hid (RowD.lit w14 [(0, 1)] #[.int .i64 0, .int .i64 1] 25 (0, 0) rfl)
  have hb := bel_box w14 (.cells #[.int .i64 0, .int .i64 1] 25)
  replace HV := Lib.hid (HV.out.keep hb)
  replace HO := Lib.hid (HO.out.keep hb)
  replace HT := Lib.hid (HT.out.keep hb)
  replace HB := bel_tr HB hb
  clear hb
  go_wp2_with fail
  generalize w14.alloc (.cells #[.int .i64 0, .int .i64 1] 25) = w15 at *
  refine (made_true [(0, 1)] (some ⟨w14.heap.size, 0, none⟩) 1 (.slice none 0 0) [] 2 _ H4.out (by decide) (SV.nil _) (by decide) ex3).mono ?_
  rintro e w16 ⟨rfl, hb⟩
  replace HV := Lib.hid (HV.out.keep hb)
  replace HO := Lib.hid (HO.out.keep hb)
  replace HT := Lib.hid (HT.out.keep hb)
  replace H4 := Lib.hid (H4.out.keep hb)
  replace HB := bel_tr HB hb
  clear hb
  clear H4
  go_wp2_with fail
  refine (get_any [(1, 2), (3, 7)] 3 (some ⟨w2.heap.size, 0, none⟩) 2 _ HV.out (by decide)).mono ?_
  rintro e w17 ⟨rfl, hl⟩
  have hb := hl.bel
  clear hl
  replace HV := Lib.hid (HV.out.keep hb)
  replace HO := Lib.hid (HO.out.keep hb)
  replace HT := Lib.hid (HT.out.keep hb)
  replace HB := bel_tr HB hb
  clear hb
  rw [ex16]
  go_wp2_with fail
  refine (get_any [(1, 2), (3, 7)] 2 (some ⟨w2.heap.size, 0, none⟩) 2 _ HV.out (by decide)).mono ?_
  rintro e w18 ⟨rfl, hl⟩
  have hb := hl.bel
  clear hl
  replace HV := Lib.hid (HV.out.keep hb)
  replace HO := Lib.hid (HO.out.keep hb)
  replace HT := Lib.hid (HT.out.keep hb)
  replace HB := bel_tr HB hb
  clear hb
  rw [ex17]
  go_wp2_with fail
  refine (of5_any 3 7 _).mono ?_
  rintro e w19 ⟨rfl, hb⟩
  replace HV := Lib.hid (HV.out.keep hb)
  replace HO := Lib.hid (HO.out.keep hb)
  replace HT := Lib.hid (HT.out.keep hb)
  replace HB := bel_tr HB hb
  clear hb
  go_wp2_with fail
  refine (has_any [(1, 2), (3, 7)] (3, 7) (some ⟨w2.heap.size, 0, none⟩) 2 _ HV.out (by decide)).mono ?_
  rintro e w20 ⟨rfl, hl⟩
  have hb := hl.bel
  clear hl
  replace HV := Lib.hid (HV.out.keep hb)
  replace HO := Lib.hid (HO.out.keep hb)
  replace HT := Lib.hid (HT.out.keep hb)
  replace HB := bel_tr HB hb
  clear hb
  rw [ex18]
  go_wp2_with fail
  refine (of5_any 3 8 _).mono ?_
  rintro e w21 ⟨rfl, hb⟩
  replace HV := Lib.hid (HV.out.keep hb)
  replace HO := Lib.hid (HO.out.keep hb)
  replace HT := Lib.hid (HT.out.keep hb)
  replace HB := bel_tr HB hb
  clear hb
  go_wp2_with fail
  refine (has_any [(1, 2), (3, 7)] (3, 8) (some ⟨w2.heap.size, 0, none⟩) 2 _ HV.out (by decide)).mono ?_
  rintro e w22 ⟨rfl, hl⟩
  have hb := hl.bel
  clear hl
  replace HV := Lib.hid (HV.out.keep hb)
  replace HO := Lib.hid (HO.out.keep hb)
  replace HT := Lib.hid (HT.out.keep hb)
  replace HB := bel_tr HB hb
  clear hb
  rw [ex19]
  go_wp2_with fail
  refine (of5_any 1 0 _).mono ?_
  rintro e w23 ⟨rfl, hb⟩
  replace HV := Lib.hid (HV.out.keep hb)
  replace HO := Lib.hid (HO.out.keep hb)
  replace HT := Lib.hid (HT.out.keep hb)
  replace HB := bel_tr HB hb
  clear hb
  go_wp2_with fail
  refine (has_any [(1, 2), (3, 7)] (1, 0) (some ⟨w2.heap.size, 0, none⟩) 2 _ HV.out (by decide)).mono ?_
  rintro e w24 ⟨rfl, hl⟩
  have hb := hl.bel
  clear hl
  replace HV := Lib.hid (HV.out.keep hb)
  replace HO := Lib.hid (HO.out.keep hb)
  replace HT := Lib.hid (HT.out.keep hb)
  replace HB := bel_tr HB hb
  clear hb
  rw [ex20]
  go_wp2_with fail
  refine (of5_any 2 5 _).mono ?_
  rintro e w25 ⟨rfl, hb⟩
  replace HV := Lib.hid (HV.out.keep hb)
  replace HO := Lib.hid (HO.out.keep hb)
  replace HT := Lib.hid (HT.out.keep hb)
  replace HB := bel_tr HB hb
  clear hb
  go_wp2_with fail
  refine (of5_any 1 2 _).mono ?_
  rintro e w26 ⟨rfl, hb⟩
  replace HV := Lib.hid (HV.out.keep hb)
  replace HO := Lib.hid (HO.out.keep hb)
  replace HT := Lib.hid (HT.out.keep hb)
  replace HB := bel_tr HB hb
  clear hb
  go_wp2_with fail
  refine (of5_any 2 5 _).mono ?_
  rintro e w27 ⟨rfl, hb⟩
  replace HV := Lib.hid (HV.out.keep hb)
  replace HO := Lib.hid (HO.out.keep hb)
  replace HT := Lib.hid (HT.out.keep hb)
  replace HB := bel_tr HB hb
  clear hb
  go_wp2_with fail
  refine (of5_any 3 7 _).mono ?_
  rintro e w28 ⟨rfl, hb⟩
  replace HV := Lib.hid (HV.out.keep hb)
  replace HO := Lib.hid (HO.out.keep hb)
  replace HT := Lib.hid (HT.out.keep hb)
  replace HB := bel_tr HB hb
  clear hb
  have H5 := Lib.hid (RowD.lit w28 [(1, 2), (2, 5), (3, 7)] #[.int .i64 1, .int .i64 2, .int .i64 2, .int .i64 5, .int .i64 3, .int .i64 7] 25 (0, 0) rfl)
  have hb := bel_box w28 (.cells #[.int .i64 1, .int .i64 2, .int .i64 2, .int .i64 5, .int .i64 3, .int .i64 7] 25)
  replace HV := Lib.hid (HV.out.keep hb)
  replace HO := Lib.hid (HO.out.keep hb)
  replace HT := Lib.hid (HT.out.keep hb)
  replace HB := bel_tr HB hb
  clear hb
  go_wp2_with fail
  generalize w28.alloc (.cells #[.int .i64 1, .int .i64 2, .int .i64 2, .int .i64 5, .int .i64 3, .int .i64 7] 25) = w29 at *
  refine (raised_true [(1, 2), (3, 7)] (2, 5) (some ⟨w2.heap.size, 0, none⟩) 2 (.slice (some ⟨w28.heap.size, 0, none⟩) 3 3) [(1, 2), (2, 5), (3, 7)] 0 _ HV.out (fun h => by cases h) (by decide) ⟨(some ⟨w28.heap.size, 0, none⟩), 3, rfl, H5.out, fun h => (by cases h), Nat.le_refl _⟩ (by decide) ex4).mono ?_
  rintro e w30 ⟨rfl, hb⟩
  replace HV := Lib.hid (HV.out.keep hb)
  replace HO := Lib.hid (HO.out.keep hb)
  replace HT := Lib.hid (HT.out.keep hb)
  replace H5 := Lib.hid (H5.out.keep hb)
  replace HB := bel_tr HB hb
  clear hb
  clear H5
  go_wp2_with fail
  refine (of5_any 3 5 _).mono ?_
  rintro e w31 ⟨rfl, hb⟩
  replace HV := Lib.hid (HV.out.keep hb)
  replace HO := Lib.hid (HO.out.keep hb)
  replace HT := Lib.hid (HT.out.keep hb)
  replace HB := bel_tr HB hb
  clear hb
  go_wp2_with fail
  refine (raised_true [(1, 2), (3, 7)] (3, 5) (some ⟨w2.heap.size, 0, none⟩) 2 (.slice (some ⟨w2.heap.size, 0, none⟩) 2 2) [(1, 2), (3, 7)] 0 _ HV.out (fun h => by cases h) (by decide) ⟨(some ⟨w2.heap.size, 0, none⟩), 2, rfl, HV.out, fun h => (by cases h), Nat.le_refl _⟩ (by decide) ex5).mono ?_
  rintro e w32 ⟨rfl, hb⟩
  replace HV := Lib.hid (HV.out.keep hb)
  replace HO := Lib.hid (HO.out.keep hb)
  replace HT := Lib.hid (HT.out.keep hb)
  replace HB := bel_tr HB hb
  clear hb
  go_wp2_with fail
  refine (of5_any 1 4 _).mono ?_
  rintro e w33 ⟨rfl, hb⟩
  replace HV := Lib.hid (HV.out.keep hb)
  replace HO := Lib.hid (HO.out.keep hb)
  replace HT := Lib.hid (HT.out.keep hb)
  replace HB := bel_tr HB hb
  clear hb
  go_wp2_with fail
  refine (of5_any 2 1 _).mono ?_
  rintro e w34 ⟨rfl, hb⟩
  replace HV := Lib.hid (HV.out.keep hb)
  replace HO := Lib.hid (HO.out.keep hb)
  replace HT := Lib.hid (HT.out.keep hb)
  replace HB := bel_tr HB hb
  clear hb
  have H6 := Lib.hid (RowD.lit w34 [(1, 4), (2, 1)] #[.int .i64 1, .int .i64 4, .int .i64 2, .int .i64 1] 25 (0, 0) rfl)
  have hb := bel_box w34 (.cells #[.int .i64 1, .int .i64 4, .int .i64 2, .int .i64 1] 25)
  replace HV := Lib.hid (HV.out.keep hb)
  replace HO := Lib.hid (HO.out.keep hb)
  replace HT := Lib.hid (HT.out.keep hb)
  replace HB := bel_tr HB hb
  clear hb
  go_wp2_with fail
  generalize w34.alloc (.cells #[.int .i64 1, .int .i64 4, .int .i64 2, .int .i64 1] 25) = w35 at *
  refine (of5_any 1 4 _).mono ?_
  rintro e w36 ⟨rfl, hb⟩
  replace HV := Lib.hid (HV.out.keep hb)
  replace HO := Lib.hid (HO.out.keep hb)
  replace HT := Lib.hid (HT.out.keep hb)
  replace H6 := Lib.hid (H6.out.keep hb)
  replace HB := bel_tr HB hb
  clear hb
  go_wp2_with fail
  refine (of5_any 2 1 _).mono ?_
  rintro e w37 ⟨rfl, hb⟩
  replace HV := Lib.hid (HV.out.keep hb)
  replace HO := Lib.hid (HO.out.keep hb)
  replace HT := Lib.hid (HT.out.keep hb)
  replace H6 := Lib.hid (H6.out.keep hb)
  replace HB := bel_tr HB hb
  clear hb
  go_wp2_with fail
  refine (of5_any 3 7 _).mono ?_
  rintro e w38 ⟨rfl, hb⟩
  replace HV := Lib.hid (HV.out.keep hb)
  replace HO := Lib.hid (HO.out.keep hb)
  replace HT := Lib.hid (HT.out.keep hb)
  replace H6 := Lib.hid (H6.out.keep hb)
  replace HB := bel_tr HB hb
  clear hb
  have H7 := Lib.hid (RowD.lit w38 [(1, 4), (2, 1), (3, 7)] #[.int .i64 1, .int .i64 4, .int .i64 2, .int .i64 1, .int .i64 3, .int .i64 7] 25 (0, 0) rfl)
  have hb := bel_box w38 (.cells #[.int .i64 1, .int .i64 4, .int .i64 2, .int .i64 1, .int .i64 3, .int .i64 7] 25)
  replace HV := Lib.hid (HV.out.keep hb)
  replace HO := Lib.hid (HO.out.keep hb)
  replace HT := Lib.hid (HT.out.keep hb)
  replace H6 := Lib.hid (H6.out.keep hb)
  replace HB := bel_tr HB hb
  clear hb
  go_wp2_with fail
  generalize w38.alloc (.cells #[.int .i64 1, .int .i64 4, .int .i64 2, .int .i64 1, .int .i64 3, .int .i64 7] 25) = w39 at *
  refine (merged_true [(1, 2), (3, 7)] [(1, 4), (2, 1)] (some ⟨w2.heap.size, 0, none⟩) (some ⟨w34.heap.size, 0, none⟩) 2 2 (.slice (some ⟨w38.heap.size, 0, none⟩) 3 3) [(1, 4), (2, 1), (3, 7)] 0 _ HV.out H6.out (fun h => by cases h) (fun h => by cases h) (by decide) (by decide) ⟨(some ⟨w38.heap.size, 0, none⟩), 3, rfl, H7.out, fun h => (by cases h), Nat.le_refl _⟩ (by decide) ex6).mono ?_
  rintro e w40 ⟨rfl, hb⟩
  replace HV := Lib.hid (HV.out.keep hb)
  replace HO := Lib.hid (HO.out.keep hb)
  replace HT := Lib.hid (HT.out.keep hb)
  replace H6 := Lib.hid (H6.out.keep hb)
  replace H7 := Lib.hid (H7.out.keep hb)
  replace HB := bel_tr HB hb
  clear hb
  clear H6 H7
  go_wp2_with fail
  refine (of5_any 3 7 _).mono ?_
  rintro e w41 ⟨rfl, hb⟩
  replace HV := Lib.hid (HV.out.keep hb)
  replace HO := Lib.hid (HO.out.keep hb)
  replace HT := Lib.hid (HT.out.keep hb)
  replace HB := bel_tr HB hb
  clear hb
  go_wp2_with fail
  refine (of5_any 1 2 _).mono ?_
  rintro e w42 ⟨rfl, hb⟩
  replace HV := Lib.hid (HV.out.keep hb)
  replace HO := Lib.hid (HO.out.keep hb)
  replace HT := Lib.hid (HT.out.keep hb)
  replace HB := bel_tr HB hb
  clear hb
  have H8 := Lib.hid (RowD.lit w42 [(3, 7), (1, 2)] #[.int .i64 3, .int .i64 7, .int .i64 1, .int .i64 2] 25 (0, 0) rfl)
  have hb := bel_box w42 (.cells #[.int .i64 3, .int .i64 7, .int .i64 1, .int .i64 2] 25)
  replace HV := Lib.hid (HV.out.keep hb)
  replace HO := Lib.hid (HO.out.keep hb)
  replace HT := Lib.hid (HT.out.keep hb)
  replace HB := bel_tr HB hb
  clear hb
  go_wp2_with fail
  generalize w42.alloc (.cells #[.int .i64 3, .int .i64 7, .int .i64 1, .int .i64 2] 25) = w43 at *
  refine (merged_true [(3, 7), (1, 2)] [] (some ⟨w42.heap.size, 0, none⟩) none 2 0 (.slice none 0 0) [] 2 _ H8.out (.inl rfl) (fun h => by cases h) (fun _ => rfl) (by decide) (by decide) (SV.nil _) (by decide) ex7).mono ?_
  rintro e w44 ⟨rfl, hb⟩
  replace HV := Lib.hid (HV.out.keep hb)
  replace HO := Lib.hid (HO.out.keep hb)
  replace HT := Lib.hid (HT.out.keep hb)
  replace H8 := Lib.hid (H8.out.keep hb)
  replace HB := bel_tr HB hb
  clear hb
  clear H8
  go_wp2_with fail
  refine (orders_true [(1, 2)] [(1, 2), (3, 7)] (some ⟨w4.heap.size, 0, none⟩) (some ⟨w2.heap.size, 0, none⟩) 1 2 (-1) 0 _ HO.out HV.out (by decide) (by decide) ex8).mono ?_
  rintro e w45 ⟨rfl, hb⟩
  replace HV := Lib.hid (HV.out.keep hb)
  replace HO := Lib.hid (HO.out.keep hb)
  replace HT := Lib.hid (HT.out.keep hb)
  replace HB := bel_tr HB hb
  clear hb
  go_wp2_with fail
  refine (orders_true [(1, 2), (3, 7)] [(1, 2)] (some ⟨w2.heap.size, 0, none⟩) (some ⟨w4.heap.size, 0, none⟩) 2 1 1 0 _ HV.out HO.out (by decide) (by decide) ex9).mono ?_
  rintro e w46 ⟨rfl, hb⟩
  replace HV := Lib.hid (HV.out.keep hb)
  replace HO := Lib.hid (HO.out.keep hb)
  replace HT := Lib.hid (HT.out.keep hb)
  replace HB := bel_tr HB hb
  clear hb
  go_wp2_with fail
  refine (orders_true [(1, 2)] [(3, 7)] (some ⟨w4.heap.size, 0, none⟩) (some ⟨w6.heap.size, 0, none⟩) 1 1 2 0 _ HO.out HT.out (by decide) (by decide) ex10).mono ?_
  rintro e w47 ⟨rfl, hb⟩
  replace HV := Lib.hid (HV.out.keep hb)
  replace HO := Lib.hid (HO.out.keep hb)
  replace HT := Lib.hid (HT.out.keep hb)
  replace HB := bel_tr HB hb
  clear hb
  go_wp2_with fail
  refine (orders_true [] [] none none 0 0 0 0 _ (.inl rfl) (.inl rfl) (by decide) (by decide) ex11).mono ?_
  rintro e w48 ⟨rfl, hb⟩
  replace HV := Lib.hid (HV.out.keep hb)
  replace HO := Lib.hid (HO.out.keep hb)
  replace HT := Lib.hid (HT.out.keep hb)
  replace HB := bel_tr HB hb
  clear hb
  go_wp2_with fail
  refine (texts_true [] none 0 [45] 0 _ (HLd.out.below HB.out) (.inl rfl) (by decide) ex12).mono ?_
  rintro e w49 ⟨rfl, hb⟩
  replace HV := Lib.hid (HV.out.keep hb)
  replace HO := Lib.hid (HO.out.keep hb)
  replace HT := Lib.hid (HT.out.keep hb)
  replace HB := bel_tr HB hb
  clear hb
  go_wp2_with fail
  refine (parses_true [49, 46, 50, 32, 51, 46, 55] (.slice (some ⟨w2.heap.size, 0, none⟩) 2 2) [(1, 2), (3, 7)] 0 _ (HLd.out.below HB.out) (by decide) ⟨(some ⟨w2.heap.size, 0, none⟩), 2, rfl, HV.out, fun h => (by cases h), Nat.le_refl _⟩ (by decide) ex13).mono ?_
  rintro e w50 ⟨rfl, hb⟩
  replace HV := Lib.hid (HV.out.keep hb)
  replace HO := Lib.hid (HO.out.keep hb)
  replace HT := Lib.hid (HT.out.keep hb)
  replace HB := bel_tr HB hb
  clear hb
  go_wp2_with fail
  refine (parses_true [51, 46, 55, 32, 49, 46, 50] (.slice none 0 0) [] 6 _ (HLd.out.below HB.out) (by decide) (SV.nil _) (by decide) ex14).mono ?_
  rintro e w51 ⟨rfl, hb⟩
  replace HV := Lib.hid (HV.out.keep hb)
  replace HO := Lib.hid (HO.out.keep hb)
  replace HT := Lib.hid (HT.out.keep hb)
  replace HB := bel_tr HB hb
  clear hb
  go_wp2_with fail
  refine (parses_true [] (.slice none 0 0) [] 6 _ (HLd.out.below HB.out) (by decide) (SV.nil _) (by decide) ex15).mono ?_
  rintro e w52 ⟨rfl, hb⟩
  replace HV := Lib.hid (HV.out.keep hb)
  replace HO := Lib.hid (HO.out.keep hb)
  replace HT := Lib.hid (HT.out.keep hb)
  replace HB := bel_tr HB hb
  clear hb
  go_wp2_with fail
  go_ret
  exact ⟨rfl, HB.out⟩
end Go.Proofs.YtfemfmppjabdjaaDoor.E
