/-
  The examples of the chapter: one statement's operations.
-/
import Derived.Test.YtfpfihmihlmobaaGreatMQLck
namespace Go.Proofs.YtfpfihmihlmobaaGreat.Qs
set_option linter.unusedVariables false
open Go.RowKit V Go.Sort D Nd
attribute [local irreducible] Sch.heldN Sch.stepV Sch.stepE

set_option maxRecDepth 100000 in
set_option maxHeartbeats 8000000 in
theorem known_r6 (w w10 : World) (B g3 g4 g5 g7 r : Nat) (u8 u9 u10 u11 u12 u13 u14 u15 u16 u17 u18 u19 u20 u21 u22 u23 u24 u25 u26 u27 u28 u29 u30 u31 u32 u33 u34 u35 u36 u37 u38 u39 u40 u41 u42 u43 u44 u45 u46 u47 u48 u49 u50 u51 u52 u53 u54 u55 u56 u57 u58 u59 u60 u61 u62 u63 u64 u65 u66 u67 u68 u69 u70 u71 u72 u73 u74 : Value) (Q : Exit → Act → World → Prop) (HK : Hid (Kn B g3 g4 g5 w10)) (HR : Hid (RowN w10 (some ⟨r, 0, none⟩) [kA, kB, kC])) (HB : Hid (Below w.heap.size w w10))
    (hQ : ∀ (v76 v77 v78 v79 v80 v81 v82 v83 v84 v85 v86 v87 v88 v89 v90 v91 v92 v93 v94 v95 v96 v97 v98 v99 v100 v101 v102 v103 v104 v105 v106 v107 v108 v109 v110 v111 v112 v113 v114 v115 v116 v117 v118 v119 v120 v121 v122 v123 v124 v125 v126 v127 v128 v129 v130 v131 v132 v133 v134 v135 v136 v137 v138 v139 v140 v141 : Value) (wx : World), Hid (Kn B g3 g4 g5 wx) → Hid (RowN wx (some ⟨r, 0, none⟩) [kA, kB, kC]) → Hid (Below w.heap.size w wx) → Q .normal { tmps := #[.bool false, .pointer (some ⟨B, 0, none⟩), .pointer (some ⟨B + 1, 0, none⟩), .pointer (some ⟨g3, 0, none⟩), .pointer (some ⟨g4, 0, none⟩), .pointer (some ⟨g5, 0, none⟩), .slice (some ⟨r, 0, none⟩) 3 3, .pointer (some ⟨g7, 0, none⟩), u8, u9, u10, u11, u12, u13, u14, u15, u16, u17, u18, u19, u20, u21, u22, u23, u24, u25, u26, u27, u28, u29, u30, u31, u32, u33, u34, u35, u36, u37, u38, u39, u40, u41, u42, u43, u44, u45, u46, u47, u48, u49, u50, u51, u52, u53, u54, u55, u56, u57, u58, u59, u60, u61, u62, u63, u64, u65, u66, u67, u68, u69, u70, u71, u72, u73, u74, .bool false, v76, v77, v78, v79, v80, v81, v82, v83, v84, v85, v86, v87, v88, v89, v90, v91, v92, v93, v94, v95, v96, v97, v98, v99, v100, v101, v102, v103, v104, v105, v106, v107, v108, v109, v110, v111, v112, v113, v114, v115, v116, v117, v118, v119, v120, v121, v122, v123, v124, v125, v126, v127, v128, v129, v130, v131, v132, v133, v134, v135, v136, v137, v138, v139, v140, v141, .bool false, undef, undef, undef, undef, undef, undef, undef, undef, undef, undef, undef, undef, undef, undef, undef, undef, undef, undef, undef, undef, undef, undef, undef, undef, undef, undef, undef, undef, undef, undef, undef, undef, undef, undef, undef, undef, undef], defers := [] } wx) : Code.wp Tryz.prog (codeAt [true, true, true, true, true, false, false] (Tryz.f9.body.getD .skip)) Q { tmps := #[.bool false, .pointer (some ⟨B, 0, none⟩), .pointer (some ⟨B + 1, 0, none⟩), .pointer (some ⟨g3, 0, none⟩), .pointer (some ⟨g4, 0, none⟩), .pointer (some ⟨g5, 0, none⟩), .slice (some ⟨r, 0, none⟩) 3 3, .pointer (some ⟨g7, 0, none⟩), u8, u9, u10, u11, u12, u13, u14, u15, u16, u17, u18, u19, u20, u21, u22, u23, u24, u25, u26, u27, u28, u29, u30, u31, u32, u33, u34, u35, u36, u37, u38, u39, u40, u41, u42, u43, u44, u45, u46, u47, u48, u49, u50, u51, u52, u53, u54, u55, u56, u57, u58, u59, u60, u61, u62, u63, u64, u65, u66, u67, u68, u69, u70, u71, u72, u73, u74, .bool false, undef, undef, undef, undef, undef, undef, undef, undef, undef, undef, undef, undef, undef, undef, undef, undef, undef, undef, undef, undef, undef, undef, undef, undef, undef, undef, undef, undef, undef, undef, undef, undef, undef, undef, undef, undef, undef, undef, undef, undef, undef, undef, undef, undef, undef, undef, undef, undef, undef, undef, undef, undef, undef, undef, undef, undef, undef, undef, undef, undef, undef, undef, undef, undef, undef, undef, undef, undef, undef, undef, undef, undef, undef, undef, undef, undef, undef, undef, undef, undef, undef, undef, undef, undef, undef, undef, undef, undef, undef, undef, undef, undef, undef, undef, undef, undef, undef, undef, undef, undef, undef, undef, undef, undef], defers := [] } w10 := by
  dsimp only [codeAt, Tryz.f9, Option.getD]
  have hd := (Below.refl w10.heap.size w10).drew
  replace HK := Lib.hid (HK.out.keep hd)
  replace HR := Lib.hid (HR.out.keep hd)
  replace HB := Lib.hid HB.out.drew
  clear hd
  refine Sch.wp_region_tn (Kn B g3 g4 g5) (.val 0 (.val 2 (.one 1 (.one 3 (.val 4 (.val 5 (.val 6 (.val 8 (.one 7 (.one 9 (.val 10 (.val 11 (.val 12 (.val 13 (.val 15 (.one 14 (.one 16 (.val 17 (.val 18 (.val 19 (.val 20 (.val 21 (.val 24 (.val 25 (.one 22 (.one 23 (.one 26 (.val 27 (.val 28 (.val 29 (.val 30 (.val 31 (.one 32 (.one 33 (.one 34 (.one 35 (.one 36 (.one 37 (.val 38 (.val 39 (.val 40 (.val 41 (.val 42 (.val 48 (.one 43 (.one 44 (.one 45 (.one 46 (.two 47 (.one 49 (.one 50 (.one 51 (.one 52 (.one 53 (.one 54 (.val 55 (.val 56 (.val 57 (.val 58 (.val 59 (.one 60 (.one 61 (.one 62 (.one 63 (.one 64 (.val 65 (.val 66 .done)))))))))))))))))) 49 (.two 47 (.one 50 (.one 51 (.one 52 (.one 53 (.one 54 (.val 55 (.val 56 (.val 57 (.val 58 (.val 59 (.one 60 (.one 61 (.one 62 (.one 63 (.one 64 (.val 65 (.val 66 .done))))))))))))))))) 50 (.two 47 (.one 51 (.one 52 (.one 53 (.one 54 (.val 55 (.val 56 (.val 57 (.val 58 (.val 59 (.one 60 (.one 61 (.one 62 (.one 63 (.one 64 (.val 65 (.val 66 .done)))))))))))))))) 51 (.two 47 (.one 52 (.one 53 (.one 54 (.val 55 (.val 56 (.val 57 (.val 58 (.val 59 (.one 60 (.one 61 (.one 62 (.one 63 (.one 64 (.val 65 (.val 66 .done))))))))))))))) 52 (.two 47 (.one 53 (.one 54 (.val 55 (.val 56 (.val 57 (.val 58 (.val 59 (.one 60 (.one 61 (.one 62 (.one 63 (.one 64 (.val 65 (.val 66 .done)))))))))))))) 53 (.one 47 (.one 54 (.val 55 (.val 56 (.val 57 (.val 58 (.val 59 (.one 60 (.one 61 (.one 62 (.one 63 (.one 64 (.val 65 (.val 66 .done))))))))))))))))))))))))))))))))))))))))))))))))))))))))))))))))))) (by kernel_rfl) (by kernel_rfl) HK.out ?_
  repeat (first
    | (refine Sch.tn_q rfl rfl rfl (fun K hK => ?_); go_big_quiet_op; (first | refine hK _ ?_ | refine ⟨_, fun _ _ => rfl, hK _ ?_⟩); clear hK K)
    | (refine Sch.tn_chk _ _ _ rfl rfl rfl rfl rfl ?_; simp only [Act.put, List.setIfInBounds_toArray, List.set_cons_zero, List.set_cons_succ])
    | (refine Sch.tn_load _ _ _ _ _ rfl rfl rfl rfl (by first | exact Kn.a | exact Kn.b | exact Kn.c | exact Kn.z | exact Kn.r) rfl ?_; simp only [Act.put, List.setIfInBounds_toArray, List.set_cons_zero, List.set_cons_succ]))
  generalize w10.drew = w12 at *
  refine Sch.tn_e rfl rfl (fun K hK => ?_)
  go_wp2_with fail
  refine (at_any 2 2 _).mono ?_
  rintro e w101 ⟨rfl, hb⟩
  replace HK := Lib.hid (HK.out.keep hb)
  replace HR := Lib.hid (HR.out.keep hb)
  replace HB := bel_tr HB hb
  clear hb
  refine hK _ _ HK.out ?_
  clear hK K
  repeat (first
    | (refine Sch.tn_q rfl rfl rfl (fun K hK => ?_); go_big_quiet_op; (first | refine hK _ ?_ | refine ⟨_, fun _ _ => rfl, hK _ ?_⟩); clear hK K)
    | (refine Sch.tn_chk _ _ _ rfl rfl rfl rfl rfl ?_; simp only [Act.put, List.setIfInBounds_toArray, List.set_cons_zero, List.set_cons_succ])
    | (refine Sch.tn_load _ _ _ _ _ rfl rfl rfl rfl (by first | exact Kn.a | exact Kn.b | exact Kn.c | exact Kn.z | exact Kn.r) rfl ?_; simp only [Act.put, List.setIfInBounds_toArray, List.set_cons_zero, List.set_cons_succ]))
  refine Sch.tn_e rfl rfl (fun K hK => ?_)
  go_wp2_with fail
  refine (finds_lit [kA, kB, kC] (2, 2) kB 0 ex7 (by decide) (by decide) rfl HR.out (by decide)).mono ?_
  rintro e w102 ⟨rfl, hb⟩
  replace HK := Lib.hid (HK.out.keep hb)
  replace HR := Lib.hid (HR.out.keep hb)
  replace HB := bel_tr HB hb
  clear hb
  refine hK _ _ HK.out ?_
  clear hK K
  repeat (first
    | (refine Sch.tn_q rfl rfl rfl (fun K hK => ?_); go_big_quiet_op; (first | refine hK _ ?_ | refine ⟨_, fun _ _ => rfl, hK _ ?_⟩); clear hK K)
    | (refine Sch.tn_chk _ _ _ rfl rfl rfl rfl rfl ?_; simp only [Act.put, List.setIfInBounds_toArray, List.set_cons_zero, List.set_cons_succ])
    | (refine Sch.tn_load _ _ _ _ _ rfl rfl rfl rfl (by first | exact Kn.a | exact Kn.b | exact Kn.c | exact Kn.z | exact Kn.r) rfl ?_; simp only [Act.put, List.setIfInBounds_toArray, List.set_cons_zero, List.set_cons_succ]))
  refine Sch.tn_e rfl rfl (fun K hK => ?_)
  go_wp2_with fail
  refine (at_any 2 3 _).mono ?_
  rintro e w103 ⟨rfl, hb⟩
  replace HK := Lib.hid (HK.out.keep hb)
  replace HR := Lib.hid (HR.out.keep hb)
  replace HB := bel_tr HB hb
  clear hb
  refine hK _ _ HK.out ?_
  clear hK K
  repeat (first
    | (refine Sch.tn_q rfl rfl rfl (fun K hK => ?_); go_big_quiet_op; (first | refine hK _ ?_ | refine ⟨_, fun _ _ => rfl, hK _ ?_⟩); clear hK K)
    | (refine Sch.tn_chk _ _ _ rfl rfl rfl rfl rfl ?_; simp only [Act.put, List.setIfInBounds_toArray, List.set_cons_zero, List.set_cons_succ])
    | (refine Sch.tn_load _ _ _ _ _ rfl rfl rfl rfl (by first | exact Kn.a | exact Kn.b | exact Kn.c | exact Kn.z | exact Kn.r) rfl ?_; simp only [Act.put, List.setIfInBounds_toArray, List.set_cons_zero, List.set_cons_succ]))
  refine Sch.tn_e rfl rfl (fun K hK => ?_)
  go_wp2_with fail
  refine (finds_lit [kA, kB, kC] (2, 3) zeroN 9 ex8 (by decide) (by decide) rfl HR.out (by decide)).mono ?_
  rintro e w104 ⟨rfl, hb⟩
  replace HK := Lib.hid (HK.out.keep hb)
  replace HR := Lib.hid (HR.out.keep hb)
  replace HB := bel_tr HB hb
  clear hb
  refine hK _ _ HK.out ?_
  clear hK K
  repeat (first
    | (refine Sch.tn_q rfl rfl rfl (fun K hK => ?_); go_big_quiet_op; (first | refine hK _ ?_ | refine ⟨_, fun _ _ => rfl, hK _ ?_⟩); clear hK K)
    | (refine Sch.tn_chk _ _ _ rfl rfl rfl rfl rfl ?_; simp only [Act.put, List.setIfInBounds_toArray, List.set_cons_zero, List.set_cons_succ])
    | (refine Sch.tn_load _ _ _ _ _ rfl rfl rfl rfl (by first | exact Kn.a | exact Kn.b | exact Kn.c | exact Kn.z | exact Kn.r) rfl ?_; simp only [Act.put, List.setIfInBounds_toArray, List.set_cons_zero, List.set_cons_succ]))
  refine Sch.tn_e rfl rfl (fun K hK => ?_)
  go_wp2_with fail
  refine (at_any 2 0 _).mono ?_
  rintro e w105 ⟨rfl, hb⟩
  replace HK := Lib.hid (HK.out.keep hb)
  replace HR := Lib.hid (HR.out.keep hb)
  replace HB := bel_tr HB hb
  clear hb
  refine hK _ _ HK.out ?_
  clear hK K
  repeat (first
    | (refine Sch.tn_q rfl rfl rfl (fun K hK => ?_); go_big_quiet_op; (first | refine hK _ ?_ | refine ⟨_, fun _ _ => rfl, hK _ ?_⟩); clear hK K)
    | (refine Sch.tn_chk _ _ _ rfl rfl rfl rfl rfl ?_; simp only [Act.put, List.setIfInBounds_toArray, List.set_cons_zero, List.set_cons_succ])
    | (refine Sch.tn_load _ _ _ _ _ rfl rfl rfl rfl (by first | exact Kn.a | exact Kn.b | exact Kn.c | exact Kn.z | exact Kn.r) rfl ?_; simp only [Act.put, List.setIfInBounds_toArray, List.set_cons_zero, List.set_cons_succ]))
  refine Sch.tn_e rfl rfl (fun K hK => ?_)
  go_wp2_with fail
  refine (finds_lit [kA, kB, kC] (2, 0) zeroN 2 ex9 (by decide) (by decide) rfl HR.out (by decide)).mono ?_
  rintro e w106 ⟨rfl, hb⟩
  replace HK := Lib.hid (HK.out.keep hb)
  replace HR := Lib.hid (HR.out.keep hb)
  replace HB := bel_tr HB hb
  clear hb
  refine hK _ _ HK.out ?_
  clear hK K
  repeat (first
    | (refine Sch.tn_q rfl rfl rfl (fun K hK => ?_); go_big_quiet_op; (first | refine hK _ ?_ | refine ⟨_, fun _ _ => rfl, hK _ ?_⟩); clear hK K)
    | (refine Sch.tn_chk _ _ _ rfl rfl rfl rfl rfl ?_; simp only [Act.put, List.setIfInBounds_toArray, List.set_cons_zero, List.set_cons_succ])
    | (refine Sch.tn_load _ _ _ _ _ rfl rfl rfl rfl (by first | exact Kn.a | exact Kn.b | exact Kn.c | exact Kn.z | exact Kn.r) rfl ?_; simp only [Act.put, List.setIfInBounds_toArray, List.set_cons_zero, List.set_cons_succ]))
  refine Sch.tn_e rfl rfl (fun K hK => ?_)
  have hbn := bel_box w106 (.cells #[.int .i64 1, .int .i64 1, .int .i64 0, .int .i64 0, .int .i64 1, .int .i32 97, .int .i64 1, .int .i64 3, .int .i64 9, .int .i64 9, .int .i64 7, .int .i32 0] 35)
  replace HK := Lib.hid (HK.out.keep hbn)
  replace HR := Lib.hid (HR.out.keep hbn)
  replace HB := bel_tr HB hbn
  have HA := Lib.hid (RowN.lit w106 [kA, kC] #[.int .i64 1, .int .i64 1, .int .i64 0, .int .i64 0, .int .i64 1, .int .i32 97, .int .i64 1, .int .i64 3, .int .i64 9, .int .i64 9, .int .i64 7, .int .i32 0] 35 (0, 0) rfl)
  clear hbn
  go_wp2_with fail
  refine hK _ _ HK.out ?_
  clear hK K
  generalize w106.alloc (.cells #[.int .i64 1, .int .i64 1, .int .i64 0, .int .i64 0, .int .i64 1, .int .i32 97, .int .i64 1, .int .i64 3, .int .i64 9, .int .i64 9, .int .i64 7, .int .i32 0] 35) = w107 at *
  generalize w106.heap.size = a107 at *
  repeat (first
    | (refine Sch.tn_q rfl rfl rfl (fun K hK => ?_); go_big_quiet_op; (first | refine hK _ ?_ | refine ⟨_, fun _ _ => rfl, hK _ ?_⟩); clear hK K)
    | (refine Sch.tn_chk _ _ _ rfl rfl rfl rfl rfl ?_; simp only [Act.put, List.setIfInBounds_toArray, List.set_cons_zero, List.set_cons_succ])
    | (refine Sch.tn_load _ _ _ _ _ rfl rfl rfl rfl (by first | exact Kn.a | exact Kn.b | exact Kn.c | exact Kn.z | exact Kn.r) rfl ?_; simp only [Act.put, List.setIfInBounds_toArray, List.set_cons_zero, List.set_cons_succ]))
  refine Sch.tn_e rfl rfl (fun K hK => ?_)
  go_wp2_with fail
  refine (nodes_any _ _).mono ?_
  rintro e w108 ⟨rfl, rfl⟩
  refine hK _ _ HK.out ?_
  clear hK K
  repeat (first
    | (refine Sch.tn_q rfl rfl rfl (fun K hK => ?_); go_big_quiet_op; (first | refine hK _ ?_ | refine ⟨_, fun _ _ => rfl, hK _ ?_⟩); clear hK K)
    | (refine Sch.tn_chk _ _ _ rfl rfl rfl rfl rfl ?_; simp only [Act.put, List.setIfInBounds_toArray, List.set_cons_zero, List.set_cons_succ])
    | (refine Sch.tn_load _ _ _ _ _ rfl rfl rfl rfl (by first | exact Kn.a | exact Kn.b | exact Kn.c | exact Kn.z | exact Kn.r) rfl ?_; simp only [Act.put, List.setIfInBounds_toArray, List.set_cons_zero, List.set_cons_succ]))
  refine Sch.tn_e rfl rfl (fun K hK => ?_)
  go_wp2_with fail
  refine (puts_lit [kA, kC] [kA, kB, kC] kB 0 ex10 (by decide) rfl rfl HA.out (by intro h; cases h) HR.out (by decide) (by decide)).mono ?_
  rintro e w109 ⟨rfl, hb⟩
  replace HK := Lib.hid (HK.out.keep hb)
  replace HR := Lib.hid (HR.out.keep hb)
  replace HA := Lib.hid (HA.out.keep hb)
  replace HB := bel_tr HB hb
  clear hb
  refine hK _ _ HK.out ?_
  clear hK K
  repeat (first
    | (refine Sch.tn_q rfl rfl rfl (fun K hK => ?_); go_big_quiet_op; (first | refine hK _ ?_ | refine ⟨_, fun _ _ => rfl, hK _ ?_⟩); clear hK K)
    | (refine Sch.tn_chk _ _ _ rfl rfl rfl rfl rfl ?_; simp only [Act.put, List.setIfInBounds_toArray, List.set_cons_zero, List.set_cons_succ])
    | (refine Sch.tn_load _ _ _ _ _ rfl rfl rfl rfl (by first | exact Kn.a | exact Kn.b | exact Kn.c | exact Kn.z | exact Kn.r) rfl ?_; simp only [Act.put, List.setIfInBounds_toArray, List.set_cons_zero, List.set_cons_succ]))
  clear HA
  refine Sch.tn_e rfl rfl (fun K hK => ?_)
  have hbn := bel_box w109 (.cells #[.int .i64 1, .int .i64 1, .int .i64 0, .int .i64 0, .int .i64 1, .int .i32 97, .int .i64 1, .int .i64 3, .int .i64 9, .int .i64 9, .int .i64 7, .int .i32 0] 35)
  replace HK := Lib.hid (HK.out.keep hbn)
  replace HR := Lib.hid (HR.out.keep hbn)
  replace HB := bel_tr HB hbn
  have HA := Lib.hid (RowN.lit w109 [kA, kC] #[.int .i64 1, .int .i64 1, .int .i64 0, .int .i64 0, .int .i64 1, .int .i32 97, .int .i64 1, .int .i64 3, .int .i64 9, .int .i64 9, .int .i64 7, .int .i32 0] 35 (0, 0) rfl)
  clear hbn
  go_wp2_with fail
  refine hK _ _ HK.out ?_
  clear hK K
  generalize w109.alloc (.cells #[.int .i64 1, .int .i64 1, .int .i64 0, .int .i64 0, .int .i64 1, .int .i32 97, .int .i64 1, .int .i64 3, .int .i64 9, .int .i64 9, .int .i64 7, .int .i32 0] 35) = w110 at *
  generalize w109.heap.size = a110 at *
  repeat (first
    | (refine Sch.tn_q rfl rfl rfl (fun K hK => ?_); go_big_quiet_op; (first | refine hK _ ?_ | refine ⟨_, fun _ _ => rfl, hK _ ?_⟩); clear hK K)
    | (refine Sch.tn_chk _ _ _ rfl rfl rfl rfl rfl ?_; simp only [Act.put, List.setIfInBounds_toArray, List.set_cons_zero, List.set_cons_succ])
    | (refine Sch.tn_load _ _ _ _ _ rfl rfl rfl rfl (by first | exact Kn.a | exact Kn.b | exact Kn.c | exact Kn.z | exact Kn.r) rfl ?_; simp only [Act.put, List.setIfInBounds_toArray, List.set_cons_zero, List.set_cons_succ]))
  refine Sch.tn_e rfl rfl (fun K hK => ?_)
  go_wp2_with fail
  refine (nodes_any _ _).mono ?_
  rintro e w111 ⟨rfl, rfl⟩
  refine hK _ _ HK.out ?_
  clear hK K
  repeat (first
    | (refine Sch.tn_q rfl rfl rfl (fun K hK => ?_); go_big_quiet_op; (first | refine hK _ ?_ | refine ⟨_, fun _ _ => rfl, hK _ ?_⟩); clear hK K)
    | (refine Sch.tn_chk _ _ _ rfl rfl rfl rfl rfl ?_; simp only [Act.put, List.setIfInBounds_toArray, List.set_cons_zero, List.set_cons_succ])
    | (refine Sch.tn_load _ _ _ _ _ rfl rfl rfl rfl (by first | exact Kn.a | exact Kn.b | exact Kn.c | exact Kn.z | exact Kn.r) rfl ?_; simp only [Act.put, List.setIfInBounds_toArray, List.set_cons_zero, List.set_cons_succ]))
  refine Sch.tn_e rfl rfl (fun K hK => ?_)
  go_wp2_with fail
  refine (at_any 1 3 _).mono ?_
  rintro e w112 ⟨rfl, hb⟩
  replace HK := Lib.hid (HK.out.keep hb)
  replace HR := Lib.hid (HR.out.keep hb)
  replace HA := Lib.hid (HA.out.keep hb)
  replace HB := bel_tr HB hb
  clear hb
  refine hK _ _ HK.out ?_
  clear hK K
  repeat (first
    | (refine Sch.tn_q rfl rfl rfl (fun K hK => ?_); go_big_quiet_op; (first | refine hK _ ?_ | refine ⟨_, fun _ _ => rfl, hK _ ?_⟩); clear hK K)
    | (refine Sch.tn_chk _ _ _ rfl rfl rfl rfl rfl ?_; simp only [Act.put, List.setIfInBounds_toArray, List.set_cons_zero, List.set_cons_succ])
    | (refine Sch.tn_load _ _ _ _ _ rfl rfl rfl rfl (by first | exact Kn.a | exact Kn.b | exact Kn.c | exact Kn.z | exact Kn.r) rfl ?_; simp only [Act.put, List.setIfInBounds_toArray, List.set_cons_zero, List.set_cons_succ]))
  refine Sch.tn_e rfl rfl (fun K hK => ?_)
  go_wp2_with fail
  refine (at_any 9 9 _).mono ?_
  rintro e w113 ⟨rfl, hb⟩
  replace HK := Lib.hid (HK.out.keep hb)
  replace HR := Lib.hid (HR.out.keep hb)
  replace HA := Lib.hid (HA.out.keep hb)
  replace HB := bel_tr HB hb
  clear hb
  refine hK _ _ HK.out ?_
  clear hK K
  repeat (first
    | (refine Sch.tn_q rfl rfl rfl (fun K hK => ?_); go_big_quiet_op; (first | refine hK _ ?_ | refine ⟨_, fun _ _ => rfl, hK _ ?_⟩); clear hK K)
    | (refine Sch.tn_chk _ _ _ rfl rfl rfl rfl rfl ?_; simp only [Act.put, List.setIfInBounds_toArray, List.set_cons_zero, List.set_cons_succ])
    | (refine Sch.tn_load _ _ _ _ _ rfl rfl rfl rfl (by first | exact Kn.a | exact Kn.b | exact Kn.c | exact Kn.z | exact Kn.r) rfl ?_; simp only [Act.put, List.setIfInBounds_toArray, List.set_cons_zero, List.set_cons_succ]))
  refine Sch.tn_e rfl rfl (fun K hK => ?_)
  go_wp2_with fail
  refine (of_any (1, 3) (9, 9) 8 0 _).mono ?_
  rintro e w114 ⟨rfl, hb⟩
  replace HK := Lib.hid (HK.out.keep hb)
  replace HR := Lib.hid (HR.out.keep hb)
  replace HA := Lib.hid (HA.out.keep hb)
  replace HB := bel_tr HB hb
  clear hb
  refine hK _ _ HK.out ?_
  clear hK K
  repeat (first
    | (refine Sch.tn_q rfl rfl rfl (fun K hK => ?_); go_big_quiet_op; (first | refine hK _ ?_ | refine ⟨_, fun _ _ => rfl, hK _ ?_⟩); clear hK K)
    | (refine Sch.tn_chk _ _ _ rfl rfl rfl rfl rfl ?_; simp only [Act.put, List.setIfInBounds_toArray, List.set_cons_zero, List.set_cons_succ])
    | (refine Sch.tn_load _ _ _ _ _ rfl rfl rfl rfl (by first | exact Kn.a | exact Kn.b | exact Kn.c | exact Kn.z | exact Kn.r) rfl ?_; simp only [Act.put, List.setIfInBounds_toArray, List.set_cons_zero, List.set_cons_succ]))
  refine Sch.tn_e rfl rfl (fun K hK => ?_)
  go_wp2_with fail
  refine (puts_lit [kA, kC] [] ((1, 3), (9, 9), 8, 0) 15 ex11 (by decide) rfl rfl HA.out (by intro h; cases h) (RowN.nil _ _) (by decide) (by decide)).mono ?_
  rintro e w115 ⟨rfl, hb⟩
  replace HK := Lib.hid (HK.out.keep hb)
  replace HR := Lib.hid (HR.out.keep hb)
  replace HA := Lib.hid (HA.out.keep hb)
  replace HB := bel_tr HB hb
  clear hb
  refine hK _ _ HK.out ?_
  clear hK K
  repeat (first
    | (refine Sch.tn_q rfl rfl rfl (fun K hK => ?_); go_big_quiet_op; (first | refine hK _ ?_ | refine ⟨_, fun _ _ => rfl, hK _ ?_⟩); clear hK K)
    | (refine Sch.tn_chk _ _ _ rfl rfl rfl rfl rfl ?_; simp only [Act.put, List.setIfInBounds_toArray, List.set_cons_zero, List.set_cons_succ])
    | (refine Sch.tn_load _ _ _ _ _ rfl rfl rfl rfl (by first | exact Kn.a | exact Kn.b | exact Kn.c | exact Kn.z | exact Kn.r) rfl ?_; simp only [Act.put, List.setIfInBounds_toArray, List.set_cons_zero, List.set_cons_succ]))
  clear HA
  refine Sch.tn_e rfl rfl (fun K hK => ?_)
  have hbn := bel_box w115 (.cells #[.int .i64 1, .int .i64 1, .int .i64 0, .int .i64 0, .int .i64 1, .int .i32 97, .int .i64 2, .int .i64 2, .int .i64 1, .int .i64 1, .int .i64 2, .int .i32 98] 35)
  replace HK := Lib.hid (HK.out.keep hbn)
  replace HR := Lib.hid (HR.out.keep hbn)
  replace HB := bel_tr HB hbn
  have HA := Lib.hid (RowN.lit w115 [kA, kB] #[.int .i64 1, .int .i64 1, .int .i64 0, .int .i64 0, .int .i64 1, .int .i32 97, .int .i64 2, .int .i64 2, .int .i64 1, .int .i64 1, .int .i64 2, .int .i32 98] 35 (0, 0) rfl)
  clear hbn
  go_wp2_with fail
  refine hK _ _ HK.out ?_
  clear hK K
  generalize w115.alloc (.cells #[.int .i64 1, .int .i64 1, .int .i64 0, .int .i64 0, .int .i64 1, .int .i32 97, .int .i64 2, .int .i64 2, .int .i64 1, .int .i64 1, .int .i64 2, .int .i32 98] 35) = w116 at *
  generalize w115.heap.size = a116 at *
  repeat (first
    | (refine Sch.tn_q rfl rfl rfl (fun K hK => ?_); go_big_quiet_op; (first | refine hK _ ?_ | refine ⟨_, fun _ _ => rfl, hK _ ?_⟩); clear hK K)
    | (refine Sch.tn_chk _ _ _ rfl rfl rfl rfl rfl ?_; simp only [Act.put, List.setIfInBounds_toArray, List.set_cons_zero, List.set_cons_succ])
    | (refine Sch.tn_load _ _ _ _ _ rfl rfl rfl rfl (by first | exact Kn.a | exact Kn.b | exact Kn.c | exact Kn.z | exact Kn.r) rfl ?_; simp only [Act.put, List.setIfInBounds_toArray, List.set_cons_zero, List.set_cons_succ]))
  refine Sch.tn_e rfl rfl (fun K hK => ?_)
  go_wp2_with fail
  refine (nodes_any _ _).mono ?_
  rintro e w117 ⟨rfl, rfl⟩
  refine hK _ _ HK.out ?_
  clear hK K
  repeat (first
    | (refine Sch.tn_q rfl rfl rfl (fun K hK => ?_); go_big_quiet_op; (first | refine hK _ ?_ | refine ⟨_, fun _ _ => rfl, hK _ ?_⟩); clear hK K)
    | (refine Sch.tn_chk _ _ _ rfl rfl rfl rfl rfl ?_; simp only [Act.put, List.setIfInBounds_toArray, List.set_cons_zero, List.set_cons_succ])
    | (refine Sch.tn_load _ _ _ _ _ rfl rfl rfl rfl (by first | exact Kn.a | exact Kn.b | exact Kn.c | exact Kn.z | exact Kn.r) rfl ?_; simp only [Act.put, List.setIfInBounds_toArray, List.set_cons_zero, List.set_cons_succ]))
  refine Sch.tn_e rfl rfl (fun K hK => ?_)
  go_wp2_with fail
  refine (at_any 2 2 _).mono ?_
  rintro e w118 ⟨rfl, hb⟩
  replace HK := Lib.hid (HK.out.keep hb)
  replace HR := Lib.hid (HR.out.keep hb)
  replace HA := Lib.hid (HA.out.keep hb)
  replace HB := bel_tr HB hb
  clear hb
  refine hK _ _ HK.out ?_
  clear hK K
  repeat (first
    | (refine Sch.tn_q rfl rfl rfl (fun K hK => ?_); go_big_quiet_op; (first | refine hK _ ?_ | refine ⟨_, fun _ _ => rfl, hK _ ?_⟩); clear hK K)
    | (refine Sch.tn_chk _ _ _ rfl rfl rfl rfl rfl ?_; simp only [Act.put, List.setIfInBounds_toArray, List.set_cons_zero, List.set_cons_succ])
    | (refine Sch.tn_load _ _ _ _ _ rfl rfl rfl rfl (by first | exact Kn.a | exact Kn.b | exact Kn.c | exact Kn.z | exact Kn.r) rfl ?_; simp only [Act.put, List.setIfInBounds_toArray, List.set_cons_zero, List.set_cons_succ]))
  refine Sch.tn_e rfl rfl (fun K hK => ?_)
  go_wp2_with fail
  refine (at_any 2 2 _).mono ?_
  rintro e w119 ⟨rfl, hb⟩
  replace HK := Lib.hid (HK.out.keep hb)
  replace HR := Lib.hid (HR.out.keep hb)
  replace HA := Lib.hid (HA.out.keep hb)
  replace HB := bel_tr HB hb
  clear hb
  refine hK _ _ HK.out ?_
  clear hK K
  repeat (first
    | (refine Sch.tn_q rfl rfl rfl (fun K hK => ?_); go_big_quiet_op; (first | refine hK _ ?_ | refine ⟨_, fun _ _ => rfl, hK _ ?_⟩); clear hK K)
    | (refine Sch.tn_chk _ _ _ rfl rfl rfl rfl rfl ?_; simp only [Act.put, List.setIfInBounds_toArray, List.set_cons_zero, List.set_cons_succ])
    | (refine Sch.tn_load _ _ _ _ _ rfl rfl rfl rfl (by first | exact Kn.a | exact Kn.b | exact Kn.c | exact Kn.z | exact Kn.r) rfl ?_; simp only [Act.put, List.setIfInBounds_toArray, List.set_cons_zero, List.set_cons_succ]))
  refine Sch.tn_two ?_ ?_
  · skip
    refine Sch.tn_e rfl rfl (fun K hK => ?_)
    have hbn := bel_box w119 (.cells #[.int .i64 2, .int .i64 2, .int .i64 2, .int .i64 2] 33)
    replace HK := Lib.hid (HK.out.keep hbn)
    replace HR := Lib.hid (HR.out.keep hbn)
    replace HA := Lib.hid (HA.out.keep hbn)
    replace HB := bel_tr HB hbn
    have HD := Lib.hid (RowD.lit w119 [(2, 2), (2, 2)] #[.int .i64 2, .int .i64 2, .int .i64 2, .int .i64 2] 33 (0, 0) rfl)
    clear hbn
    go_wp2_with fail
    refine hK _ _ HK.out ?_
    clear hK K
    generalize w119.alloc (.cells #[.int .i64 2, .int .i64 2, .int .i64 2, .int .i64 2] 33) = w120 at *
    generalize w119.heap.size = a120 at *
    repeat (first
      | (refine Sch.tn_q rfl rfl rfl (fun K hK => ?_); go_big_quiet_op; (first | refine hK _ ?_ | refine ⟨_, fun _ _ => rfl, hK _ ?_⟩); clear hK K)
      | (refine Sch.tn_chk _ _ _ rfl rfl rfl rfl rfl ?_; simp only [Act.put, List.setIfInBounds_toArray, List.set_cons_zero, List.set_cons_succ])
      | (refine Sch.tn_load _ _ _ _ _ rfl rfl rfl rfl (by first | exact Kn.a | exact Kn.b | exact Kn.c | exact Kn.z | exact Kn.r) rfl ?_; simp only [Act.put, List.setIfInBounds_toArray, List.set_cons_zero, List.set_cons_succ]))
    refine Sch.tn_e rfl rfl (fun K hK => ?_)
    go_wp2_with fail
    refine (at_any 2 2 _).mono ?_
    rintro e w121 ⟨rfl, hb⟩
    replace HK := Lib.hid (HK.out.keep hb)
    replace HR := Lib.hid (HR.out.keep hb)
    replace HA := Lib.hid (HA.out.keep hb)
    replace HD := Lib.hid (HD.out.keep hb)
    replace HB := bel_tr HB hb
    clear hb
    refine hK _ _ HK.out ?_
    clear hK K
    repeat (first
      | (refine Sch.tn_q rfl rfl rfl (fun K hK => ?_); go_big_quiet_op; (first | refine hK _ ?_ | refine ⟨_, fun _ _ => rfl, hK _ ?_⟩); clear hK K)
      | (refine Sch.tn_chk _ _ _ rfl rfl rfl rfl rfl ?_; simp only [Act.put, List.setIfInBounds_toArray, List.set_cons_zero, List.set_cons_succ])
      | (refine Sch.tn_load _ _ _ _ _ rfl rfl rfl rfl (by first | exact Kn.a | exact Kn.b | exact Kn.c | exact Kn.z | exact Kn.r) rfl ?_; simp only [Act.put, List.setIfInBounds_toArray, List.set_cons_zero, List.set_cons_succ]))
    refine Sch.tn_e rfl rfl (fun K hK => ?_)
    go_wp2_with fail
    refine (at_any 1 1 _).mono ?_
    rintro e w122 ⟨rfl, hb⟩
    replace HK := Lib.hid (HK.out.keep hb)
    replace HR := Lib.hid (HR.out.keep hb)
    replace HA := Lib.hid (HA.out.keep hb)
    replace HD := Lib.hid (HD.out.keep hb)
    replace HB := bel_tr HB hb
    clear hb
    refine hK _ _ HK.out ?_
    clear hK K
    repeat (first
      | (refine Sch.tn_q rfl rfl rfl (fun K hK => ?_); go_big_quiet_op; (first | refine hK _ ?_ | refine ⟨_, fun _ _ => rfl, hK _ ?_⟩); clear hK K)
      | (refine Sch.tn_chk _ _ _ rfl rfl rfl rfl rfl ?_; simp only [Act.put, List.setIfInBounds_toArray, List.set_cons_zero, List.set_cons_succ])
      | (refine Sch.tn_load _ _ _ _ _ rfl rfl rfl rfl (by first | exact Kn.a | exact Kn.b | exact Kn.c | exact Kn.z | exact Kn.r) rfl ?_; simp only [Act.put, List.setIfInBounds_toArray, List.set_cons_zero, List.set_cons_succ]))
    refine Sch.tn_e rfl rfl (fun K hK => ?_)
    go_wp2_with fail
    refine (of_any (2, 2) (1, 1) 2 0 _).mono ?_
    rintro e w123 ⟨rfl, hb⟩
    replace HK := Lib.hid (HK.out.keep hb)
    replace HR := Lib.hid (HR.out.keep hb)
    replace HA := Lib.hid (HA.out.keep hb)
    replace HD := Lib.hid (HD.out.keep hb)
    replace HB := bel_tr HB hb
    clear hb
    refine hK _ _ HK.out ?_
    clear hK K
    repeat (first
      | (refine Sch.tn_q rfl rfl rfl (fun K hK => ?_); go_big_quiet_op; (first | refine hK _ ?_ | refine ⟨_, fun _ _ => rfl, hK _ ?_⟩); clear hK K)
      | (refine Sch.tn_chk _ _ _ rfl rfl rfl rfl rfl ?_; simp only [Act.put, List.setIfInBounds_toArray, List.set_cons_zero, List.set_cons_succ])
      | (refine Sch.tn_load _ _ _ _ _ rfl rfl rfl rfl (by first | exact Kn.a | exact Kn.b | exact Kn.c | exact Kn.z | exact Kn.r) rfl ?_; simp only [Act.put, List.setIfInBounds_toArray, List.set_cons_zero, List.set_cons_succ]))
    refine Sch.tn_e rfl rfl (fun K hK => ?_)
    have hbn := bel_box w123 (.cells #[.int .i64 1, .int .i64 1, .int .i64 0, .int .i64 0, .int .i64 1, .int .i32 97, .int .i64 2, .int .i64 2, .int .i64 1, .int .i64 1, .int .i64 2, .int .i32 0] 35)
    replace HK := Lib.hid (HK.out.keep hbn)
    replace HR := Lib.hid (HR.out.keep hbn)
    replace HA := Lib.hid (HA.out.keep hbn)
    replace HD := Lib.hid (HD.out.keep hbn)
    replace HB := bel_tr HB hbn
    have HE := Lib.hid (RowN.lit w123 [kA, ((2, 2), (1, 1), 2, 0)] #[.int .i64 1, .int .i64 1, .int .i64 0, .int .i64 0, .int .i64 1, .int .i32 97, .int .i64 2, .int .i64 2, .int .i64 1, .int .i64 1, .int .i64 2, .int .i32 0] 35 (0, 0) rfl)
    clear hbn
    go_wp2_with fail
    refine hK _ _ HK.out ?_
    clear hK K
    generalize w123.alloc (.cells #[.int .i64 1, .int .i64 1, .int .i64 0, .int .i64 0, .int .i64 1, .int .i32 97, .int .i64 2, .int .i64 2, .int .i64 1, .int .i64 1, .int .i64 2, .int .i32 0] 35) = w124 at *
    generalize w123.heap.size = a124 at *
    repeat (first
      | (refine Sch.tn_q rfl rfl rfl (fun K hK => ?_); go_big_quiet_op; (first | refine hK _ ?_ | refine ⟨_, fun _ _ => rfl, hK _ ?_⟩); clear hK K)
      | (refine Sch.tn_chk _ _ _ rfl rfl rfl rfl rfl ?_; simp only [Act.put, List.setIfInBounds_toArray, List.set_cons_zero, List.set_cons_succ])
      | (refine Sch.tn_load _ _ _ _ _ rfl rfl rfl rfl (by first | exact Kn.a | exact Kn.b | exact Kn.c | exact Kn.z | exact Kn.r) rfl ?_; simp only [Act.put, List.setIfInBounds_toArray, List.set_cons_zero, List.set_cons_succ]))
    refine Sch.tn_e rfl rfl (fun K hK => ?_)
    go_wp2_with fail
    refine (nodes_any _ _).mono ?_
    rintro e w125 ⟨rfl, rfl⟩
    refine hK _ _ HK.out ?_
    clear hK K
    repeat (first
      | (refine Sch.tn_q rfl rfl rfl (fun K hK => ?_); go_big_quiet_op; (first | refine hK _ ?_ | refine ⟨_, fun _ _ => rfl, hK _ ?_⟩); clear hK K)
      | (refine Sch.tn_chk _ _ _ rfl rfl rfl rfl rfl ?_; simp only [Act.put, List.setIfInBounds_toArray, List.set_cons_zero, List.set_cons_succ])
      | (refine Sch.tn_load _ _ _ _ _ rfl rfl rfl rfl (by first | exact Kn.a | exact Kn.b | exact Kn.c | exact Kn.z | exact Kn.r) rfl ?_; simp only [Act.put, List.setIfInBounds_toArray, List.set_cons_zero, List.set_cons_succ]))
    exact known_t6 w _ B g3 g4 g5 g7 r _ _ _ _ _ _ _ _ _ _ _ _ _ _ _ _ _ _ _ _ _ _ _ _ _ _ _ _ _ _ _ _ _ _ _ _ _ _ _ _ _ _ _ _ _ _ _ _ _ _ _ _ _ _ _ _ _ _ _ _ _ _ _ _ _ _ _ _ _ _ _ _ _ _ _ _ _ _ _ _ _ _ _ _ _ _ _ _ _ _ _ _ _ _ _ _ _ _ _ _ _ _ _ _ _ _ _ _ _ _ _ _ _ _ _ _ _ _ _ _ Q HK HR HB HA HD HE hQ
  · skip
    refine Sch.tn_e rfl rfl (fun K hK => ?_)
    go_wp2_with fail
    refine (at_any 2 2 _).mono ?_
    rintro e w120 ⟨rfl, hb⟩
    replace HK := Lib.hid (HK.out.keep hb)
    replace HR := Lib.hid (HR.out.keep hb)
    replace HA := Lib.hid (HA.out.keep hb)
    replace HB := bel_tr HB hb
    clear hb
    refine hK _ _ HK.out ?_
    clear hK K
    repeat (first
      | (refine Sch.tn_q rfl rfl rfl (fun K hK => ?_); go_big_quiet_op; (first | refine hK _ ?_ | refine ⟨_, fun _ _ => rfl, hK _ ?_⟩); clear hK K)
      | (refine Sch.tn_chk _ _ _ rfl rfl rfl rfl rfl ?_; simp only [Act.put, List.setIfInBounds_toArray, List.set_cons_zero, List.set_cons_succ])
      | (refine Sch.tn_load _ _ _ _ _ rfl rfl rfl rfl (by first | exact Kn.a | exact Kn.b | exact Kn.c | exact Kn.z | exact Kn.r) rfl ?_; simp only [Act.put, List.setIfInBounds_toArray, List.set_cons_zero, List.set_cons_succ]))
    refine Sch.tn_two ?_ ?_
    · skip
      refine Sch.tn_e rfl rfl (fun K hK => ?_)
      have hbn := bel_box w120 (.cells #[.int .i64 2, .int .i64 2, .int .i64 2, .int .i64 2] 33)
      replace HK := Lib.hid (HK.out.keep hbn)
      replace HR := Lib.hid (HR.out.keep hbn)
      replace HA := Lib.hid (HA.out.keep hbn)
      replace HB := bel_tr HB hbn
      have HD := Lib.hid (RowD.lit w120 [(2, 2), (2, 2)] #[.int .i64 2, .int .i64 2, .int .i64 2, .int .i64 2] 33 (0, 0) rfl)
      clear hbn
      go_wp2_with fail
      refine hK _ _ HK.out ?_
      clear hK K
      generalize w120.alloc (.cells #[.int .i64 2, .int .i64 2, .int .i64 2, .int .i64 2] 33) = w121 at *
      generalize w120.heap.size = a121 at *
      repeat (first
        | (refine Sch.tn_q rfl rfl rfl (fun K hK => ?_); go_big_quiet_op; (first | refine hK _ ?_ | refine ⟨_, fun _ _ => rfl, hK _ ?_⟩); clear hK K)
        | (refine Sch.tn_chk _ _ _ rfl rfl rfl rfl rfl ?_; simp only [Act.put, List.setIfInBounds_toArray, List.set_cons_zero, List.set_cons_succ])
        | (refine Sch.tn_load _ _ _ _ _ rfl rfl rfl rfl (by first | exact Kn.a | exact Kn.b | exact Kn.c | exact Kn.z | exact Kn.r) rfl ?_; simp only [Act.put, List.setIfInBounds_toArray, List.set_cons_zero, List.set_cons_succ]))
      refine Sch.tn_e rfl rfl (fun K hK => ?_)
      go_wp2_with fail
      refine (at_any 1 1 _).mono ?_
      rintro e w122 ⟨rfl, hb⟩
      replace HK := Lib.hid (HK.out.keep hb)
      replace HR := Lib.hid (HR.out.keep hb)
      replace HA := Lib.hid (HA.out.keep hb)
      replace HD := Lib.hid (HD.out.keep hb)
      replace HB := bel_tr HB hb
      clear hb
      refine hK _ _ HK.out ?_
      clear hK K
      repeat (first
        | (refine Sch.tn_q rfl rfl rfl (fun K hK => ?_); go_big_quiet_op; (first | refine hK _ ?_ | refine ⟨_, fun _ _ => rfl, hK _ ?_⟩); clear hK K)
        | (refine Sch.tn_chk _ _ _ rfl rfl rfl rfl rfl ?_; simp only [Act.put, List.setIfInBounds_toArray, List.set_cons_zero, List.set_cons_succ])
        | (refine Sch.tn_load _ _ _ _ _ rfl rfl rfl rfl (by first | exact Kn.a | exact Kn.b | exact Kn.c | exact Kn.z | exact Kn.r) rfl ?_; simp only [Act.put, List.setIfInBounds_toArray, List.set_cons_zero, List.set_cons_succ]))
      refine Sch.tn_e rfl rfl (fun K hK => ?_)
      go_wp2_with fail
      refine (of_any (2, 2) (1, 1) 2 0 _).mono ?_
      rintro e w123 ⟨rfl, hb⟩
      replace HK := Lib.hid (HK.out.keep hb)
      replace HR := Lib.hid (HR.out.keep hb)
      replace HA := Lib.hid (HA.out.keep hb)
      replace HD := Lib.hid (HD.out.keep hb)
      replace HB := bel_tr HB hb
      clear hb
      refine hK _ _ HK.out ?_
      clear hK K
      repeat (first
        | (refine Sch.tn_q rfl rfl rfl (fun K hK => ?_); go_big_quiet_op; (first | refine hK _ ?_ | refine ⟨_, fun _ _ => rfl, hK _ ?_⟩); clear hK K)
        | (refine Sch.tn_chk _ _ _ rfl rfl rfl rfl rfl ?_; simp only [Act.put, List.setIfInBounds_toArray, List.set_cons_zero, List.set_cons_succ])
        | (refine Sch.tn_load _ _ _ _ _ rfl rfl rfl rfl (by first | exact Kn.a | exact Kn.b | exact Kn.c | exact Kn.z | exact Kn.r) rfl ?_; simp only [Act.put, List.setIfInBounds_toArray, List.set_cons_zero, List.set_cons_succ]))
      refine Sch.tn_e rfl rfl (fun K hK => ?_)
      have hbn := bel_box w123 (.cells #[.int .i64 1, .int .i64 1, .int .i64 0, .int .i64 0, .int .i64 1, .int .i32 97, .int .i64 2, .int .i64 2, .int .i64 1, .int .i64 1, .int .i64 2, .int .i32 0] 35)
      replace HK := Lib.hid (HK.out.keep hbn)
      replace HR := Lib.hid (HR.out.keep hbn)
      replace HA := Lib.hid (HA.out.keep hbn)
      replace HD := Lib.hid (HD.out.keep hbn)
      replace HB := bel_tr HB hbn
      have HE := Lib.hid (RowN.lit w123 [kA, ((2, 2), (1, 1), 2, 0)] #[.int .i64 1, .int .i64 1, .int .i64 0, .int .i64 0, .int .i64 1, .int .i32 97, .int .i64 2, .int .i64 2, .int .i64 1, .int .i64 1, .int .i64 2, .int .i32 0] 35 (0, 0) rfl)
      clear hbn
      go_wp2_with fail
      refine hK _ _ HK.out ?_
      clear hK K
      generalize w123.alloc (.cells #[.int .i64 1, .int .i64 1, .int .i64 0, .int .i64 0, .int .i64 1, .int .i32 97, .int .i64 2, .int .i64 2, .int .i64 1, .int .i64 1, .int .i64 2, .int .i32 0] 35) = w124 at *
      generalize w123.heap.size = a124 at *
      repeat (first
        | (refine Sch.tn_q rfl rfl rfl (fun K hK => ?_); go_big_quiet_op; (first | refine hK _ ?_ | refine ⟨_, fun _ _ => rfl, hK _ ?_⟩); clear hK K)
        | (refine Sch.tn_chk _ _ _ rfl rfl rfl rfl rfl ?_; simp only [Act.put, List.setIfInBounds_toArray, List.set_cons_zero, List.set_cons_succ])
        | (refine Sch.tn_load _ _ _ _ _ rfl rfl rfl rfl (by first | exact Kn.a | exact Kn.b | exact Kn.c | exact Kn.z | exact Kn.r) rfl ?_; simp only [Act.put, List.setIfInBounds_toArray, List.set_cons_zero, List.set_cons_succ]))
      refine Sch.tn_e rfl rfl (fun K hK => ?_)
      go_wp2_with fail
      refine (nodes_any _ _).mono ?_
      rintro e w125 ⟨rfl, rfl⟩
      refine hK _ _ HK.out ?_
      clear hK K
      repeat (first
        | (refine Sch.tn_q rfl rfl rfl (fun K hK => ?_); go_big_quiet_op; (first | refine hK _ ?_ | refine ⟨_, fun _ _ => rfl, hK _ ?_⟩); clear hK K)
        | (refine Sch.tn_chk _ _ _ rfl rfl rfl rfl rfl ?_; simp only [Act.put, List.setIfInBounds_toArray, List.set_cons_zero, List.set_cons_succ])
        | (refine Sch.tn_load _ _ _ _ _ rfl rfl rfl rfl (by first | exact Kn.a | exact Kn.b | exact Kn.c | exact Kn.z | exact Kn.r) rfl ?_; simp only [Act.put, List.setIfInBounds_toArray, List.set_cons_zero, List.set_cons_succ]))
      exact known_t6 w _ B g3 g4 g5 g7 r _ _ _ _ _ _ _ _ _ _ _ _ _ _ _ _ _ _ _ _ _ _ _ _ _ _ _ _ _ _ _ _ _ _ _ _ _ _ _ _ _ _ _ _ _ _ _ _ _ _ _ _ _ _ _ _ _ _ _ _ _ _ _ _ _ _ _ _ _ _ _ _ _ _ _ _ _ _ _ _ _ _ _ _ _ _ _ _ _ _ _ _ _ _ _ _ _ _ _ _ _ _ _ _ _ _ _ _ _ _ _ _ _ _ _ _ _ _ _ _ Q HK HR HB HA HD HE hQ
    · skip
      refine Sch.tn_e rfl rfl (fun K hK => ?_)
      go_wp2_with fail
      refine (at_any 1 1 _).mono ?_
      rintro e w121 ⟨rfl, hb⟩
      replace HK := Lib.hid (HK.out.keep hb)
      replace HR := Lib.hid (HR.out.keep hb)
      replace HA := Lib.hid (HA.out.keep hb)
      replace HB := bel_tr HB hb
      clear hb
      refine hK _ _ HK.out ?_
      clear hK K
      repeat (first
        | (refine Sch.tn_q rfl rfl rfl (fun K hK => ?_); go_big_quiet_op; (first | refine hK _ ?_ | refine ⟨_, fun _ _ => rfl, hK _ ?_⟩); clear hK K)
        | (refine Sch.tn_chk _ _ _ rfl rfl rfl rfl rfl ?_; simp only [Act.put, List.setIfInBounds_toArray, List.set_cons_zero, List.set_cons_succ])
        | (refine Sch.tn_load _ _ _ _ _ rfl rfl rfl rfl (by first | exact Kn.a | exact Kn.b | exact Kn.c | exact Kn.z | exact Kn.r) rfl ?_; simp only [Act.put, List.setIfInBounds_toArray, List.set_cons_zero, List.set_cons_succ]))
      refine Sch.tn_two ?_ ?_
      · skip
        refine Sch.tn_e rfl rfl (fun K hK => ?_)
        have hbn := bel_box w121 (.cells #[.int .i64 2, .int .i64 2, .int .i64 2, .int .i64 2] 33)
        replace HK := Lib.hid (HK.out.keep hbn)
        replace HR := Lib.hid (HR.out.keep hbn)
        replace HA := Lib.hid (HA.out.keep hbn)
        replace HB := bel_tr HB hbn
        have HD := Lib.hid (RowD.lit w121 [(2, 2), (2, 2)] #[.int .i64 2, .int .i64 2, .int .i64 2, .int .i64 2] 33 (0, 0) rfl)
        clear hbn
        go_wp2_with fail
        refine hK _ _ HK.out ?_
        clear hK K
        generalize w121.alloc (.cells #[.int .i64 2, .int .i64 2, .int .i64 2, .int .i64 2] 33) = w122 at *
        generalize w121.heap.size = a122 at *
        repeat (first
          | (refine Sch.tn_q rfl rfl rfl (fun K hK => ?_); go_big_quiet_op; (first | refine hK _ ?_ | refine ⟨_, fun _ _ => rfl, hK _ ?_⟩); clear hK K)
          | (refine Sch.tn_chk _ _ _ rfl rfl rfl rfl rfl ?_; simp only [Act.put, List.setIfInBounds_toArray, List.set_cons_zero, List.set_cons_succ])
          | (refine Sch.tn_load _ _ _ _ _ rfl rfl rfl rfl (by first | exact Kn.a | exact Kn.b | exact Kn.c | exact Kn.z | exact Kn.r) rfl ?_; simp only [Act.put, List.setIfInBounds_toArray, List.set_cons_zero, List.set_cons_succ]))
        refine Sch.tn_e rfl rfl (fun K hK => ?_)
        go_wp2_with fail
        refine (of_any (2, 2) (1, 1) 2 0 _).mono ?_
        rintro e w123 ⟨rfl, hb⟩
        replace HK := Lib.hid (HK.out.keep hb)
        replace HR := Lib.hid (HR.out.keep hb)
        replace HA := Lib.hid (HA.out.keep hb)
        replace HD := Lib.hid (HD.out.keep hb)
        replace HB := bel_tr HB hb
        clear hb
        refine hK _ _ HK.out ?_
        clear hK K
        repeat (first
          | (refine Sch.tn_q rfl rfl rfl (fun K hK => ?_); go_big_quiet_op; (first | refine hK _ ?_ | refine ⟨_, fun _ _ => rfl, hK _ ?_⟩); clear hK K)
          | (refine Sch.tn_chk _ _ _ rfl rfl rfl rfl rfl ?_; simp only [Act.put, List.setIfInBounds_toArray, List.set_cons_zero, List.set_cons_succ])
          | (refine Sch.tn_load _ _ _ _ _ rfl rfl rfl rfl (by first | exact Kn.a | exact Kn.b | exact Kn.c | exact Kn.z | exact Kn.r) rfl ?_; simp only [Act.put, List.setIfInBounds_toArray, List.set_cons_zero, List.set_cons_succ]))
        refine Sch.tn_e rfl rfl (fun K hK => ?_)
        have hbn := bel_box w123 (.cells #[.int .i64 1, .int .i64 1, .int .i64 0, .int .i64 0, .int .i64 1, .int .i32 97, .int .i64 2, .int .i64 2, .int .i64 1, .int .i64 1, .int .i64 2, .int .i32 0] 35)
        replace HK := Lib.hid (HK.out.keep hbn)
        replace HR := Lib.hid (HR.out.keep hbn)
        replace HA := Lib.hid (HA.out.keep hbn)
        replace HD := Lib.hid (HD.out.keep hbn)
        replace HB := bel_tr HB hbn
        have HE := Lib.hid (RowN.lit w123 [kA, ((2, 2), (1, 1), 2, 0)] #[.int .i64 1, .int .i64 1, .int .i64 0, .int .i64 0, .int .i64 1, .int .i32 97, .int .i64 2, .int .i64 2, .int .i64 1, .int .i64 1, .int .i64 2, .int .i32 0] 35 (0, 0) rfl)
        clear hbn
        go_wp2_with fail
        refine hK _ _ HK.out ?_
        clear hK K
        generalize w123.alloc (.cells #[.int .i64 1, .int .i64 1, .int .i64 0, .int .i64 0, .int .i64 1, .int .i32 97, .int .i64 2, .int .i64 2, .int .i64 1, .int .i64 1, .int .i64 2, .int .i32 0] 35) = w124 at *
        generalize w123.heap.size = a124 at *
        repeat (first
          | (refine Sch.tn_q rfl rfl rfl (fun K hK => ?_); go_big_quiet_op; (first | refine hK _ ?_ | refine ⟨_, fun _ _ => rfl, hK _ ?_⟩); clear hK K)
          | (refine Sch.tn_chk _ _ _ rfl rfl rfl rfl rfl ?_; simp only [Act.put, List.setIfInBounds_toArray, List.set_cons_zero, List.set_cons_succ])
          | (refine Sch.tn_load _ _ _ _ _ rfl rfl rfl rfl (by first | exact Kn.a | exact Kn.b | exact Kn.c | exact Kn.z | exact Kn.r) rfl ?_; simp only [Act.put, List.setIfInBounds_toArray, List.set_cons_zero, List.set_cons_succ]))
        refine Sch.tn_e rfl rfl (fun K hK => ?_)
        go_wp2_with fail
        refine (nodes_any _ _).mono ?_
        rintro e w125 ⟨rfl, rfl⟩
        refine hK _ _ HK.out ?_
        clear hK K
        repeat (first
          | (refine Sch.tn_q rfl rfl rfl (fun K hK => ?_); go_big_quiet_op; (first | refine hK _ ?_ | refine ⟨_, fun _ _ => rfl, hK _ ?_⟩); clear hK K)
          | (refine Sch.tn_chk _ _ _ rfl rfl rfl rfl rfl ?_; simp only [Act.put, List.setIfInBounds_toArray, List.set_cons_zero, List.set_cons_succ])
          | (refine Sch.tn_load _ _ _ _ _ rfl rfl rfl rfl (by first | exact Kn.a | exact Kn.b | exact Kn.c | exact Kn.z | exact Kn.r) rfl ?_; simp only [Act.put, List.setIfInBounds_toArray, List.set_cons_zero, List.set_cons_succ]))
        exact known_t6 w _ B g3 g4 g5 g7 r _ _ _ _ _ _ _ _ _ _ _ _ _ _ _ _ _ _ _ _ _ _ _ _ _ _ _ _ _ _ _ _ _ _ _ _ _ _ _ _ _ _ _ _ _ _ _ _ _ _ _ _ _ _ _ _ _ _ _ _ _ _ _ _ _ _ _ _ _ _ _ _ _ _ _ _ _ _ _ _ _ _ _ _ _ _ _ _ _ _ _ _ _ _ _ _ _ _ _ _ _ _ _ _ _ _ _ _ _ _ _ _ _ _ _ _ _ _ _ _ Q HK HR HB HA HD HE hQ
      · skip
        refine Sch.tn_e rfl rfl (fun K hK => ?_)
        go_wp2_with fail
        refine (of_any (2, 2) (1, 1) 2 0 _).mono ?_
        rintro e w122 ⟨rfl, hb⟩
        replace HK := Lib.hid (HK.out.keep hb)
        replace HR := Lib.hid (HR.out.keep hb)
        replace HA := Lib.hid (HA.out.keep hb)
        replace HB := bel_tr HB hb
        clear hb
        refine hK _ _ HK.out ?_
        clear hK K
        repeat (first
          | (refine Sch.tn_q rfl rfl rfl (fun K hK => ?_); go_big_quiet_op; (first | refine hK _ ?_ | refine ⟨_, fun _ _ => rfl, hK _ ?_⟩); clear hK K)
          | (refine Sch.tn_chk _ _ _ rfl rfl rfl rfl rfl ?_; simp only [Act.put, List.setIfInBounds_toArray, List.set_cons_zero, List.set_cons_succ])
          | (refine Sch.tn_load _ _ _ _ _ rfl rfl rfl rfl (by first | exact Kn.a | exact Kn.b | exact Kn.c | exact Kn.z | exact Kn.r) rfl ?_; simp only [Act.put, List.setIfInBounds_toArray, List.set_cons_zero, List.set_cons_succ]))
        refine Sch.tn_two ?_ ?_
        · skip
          refine Sch.tn_e rfl rfl (fun K hK => ?_)
          have hbn := bel_box w122 (.cells #[.int .i64 2, .int .i64 2, .int .i64 2, .int .i64 2] 33)
          replace HK := Lib.hid (HK.out.keep hbn)
          replace HR := Lib.hid (HR.out.keep hbn)
          replace HA := Lib.hid (HA.out.keep hbn)
          replace HB := bel_tr HB hbn
          have HD := Lib.hid (RowD.lit w122 [(2, 2), (2, 2)] #[.int .i64 2, .int .i64 2, .int .i64 2, .int .i64 2] 33 (0, 0) rfl)
          clear hbn
          go_wp2_with fail
          refine hK _ _ HK.out ?_
          clear hK K
          generalize w122.alloc (.cells #[.int .i64 2, .int .i64 2, .int .i64 2, .int .i64 2] 33) = w123 at *
          generalize w122.heap.size = a123 at *
          repeat (first
            | (refine Sch.tn_q rfl rfl rfl (fun K hK => ?_); go_big_quiet_op; (first | refine hK _ ?_ | refine ⟨_, fun _ _ => rfl, hK _ ?_⟩); clear hK K)
            | (refine Sch.tn_chk _ _ _ rfl rfl rfl rfl rfl ?_; simp only [Act.put, List.setIfInBounds_toArray, List.set_cons_zero, List.set_cons_succ])
            | (refine Sch.tn_load _ _ _ _ _ rfl rfl rfl rfl (by first | exact Kn.a | exact Kn.b | exact Kn.c | exact Kn.z | exact Kn.r) rfl ?_; simp only [Act.put, List.setIfInBounds_toArray, List.set_cons_zero, List.set_cons_succ]))
          refine Sch.tn_e rfl rfl (fun K hK => ?_)
          have hbn := bel_box w123 (.cells #[.int .i64 1, .int .i64 1, .int .i64 0, .int .i64 0, .int .i64 1, .int .i32 97, .int .i64 2, .int .i64 2, .int .i64 1, .int .i64 1, .int .i64 2, .int .i32 0] 35)
          replace HK := Lib.hid (HK.out.keep hbn)
          replace HR := Lib.hid (HR.out.keep hbn)
          replace HA := Lib.hid (HA.out.keep hbn)
          replace HD := Lib.hid (HD.out.keep hbn)
          replace HB := bel_tr HB hbn
          have HE := Lib.hid (RowN.lit w123 [kA, ((2, 2), (1, 1), 2, 0)] #[.int .i64 1, .int .i64 1, .int .i64 0, .int .i64 0, .int .i64 1, .int .i32 97, .int .i64 2, .int .i64 2, .int .i64 1, .int .i64 1, .int .i64 2, .int .i32 0] 35 (0, 0) rfl)
          clear hbn
          go_wp2_with fail
          refine hK _ _ HK.out ?_
          clear hK K
          generalize w123.alloc (.cells #[.int .i64 1, .int .i64 1, .int .i64 0, .int .i64 0, .int .i64 1, .int .i32 97, .int .i64 2, .int .i64 2, .int .i64 1, .int .i64 1, .int .i64 2, .int .i32 0] 35) = w124 at *
          generalize w123.heap.size = a124 at *
          repeat (first
            | (refine Sch.tn_q rfl rfl rfl (fun K hK => ?_); go_big_quiet_op; (first | refine hK _ ?_ | refine ⟨_, fun _ _ => rfl, hK _ ?_⟩); clear hK K)
            | (refine Sch.tn_chk _ _ _ rfl rfl rfl rfl rfl ?_; simp only [Act.put, List.setIfInBounds_toArray, List.set_cons_zero, List.set_cons_succ])
            | (refine Sch.tn_load _ _ _ _ _ rfl rfl rfl rfl (by first | exact Kn.a | exact Kn.b | exact Kn.c | exact Kn.z | exact Kn.r) rfl ?_; simp only [Act.put, List.setIfInBounds_toArray, List.set_cons_zero, List.set_cons_succ]))
          refine Sch.tn_e rfl rfl (fun K hK => ?_)
          go_wp2_with fail
          refine (nodes_any _ _).mono ?_
          rintro e w125 ⟨rfl, rfl⟩
          refine hK _ _ HK.out ?_
          clear hK K
          repeat (first
            | (refine Sch.tn_q rfl rfl rfl (fun K hK => ?_); go_big_quiet_op; (first | refine hK _ ?_ | refine ⟨_, fun _ _ => rfl, hK _ ?_⟩); clear hK K)
            | (refine Sch.tn_chk _ _ _ rfl rfl rfl rfl rfl ?_; simp only [Act.put, List.setIfInBounds_toArray, List.set_cons_zero, List.set_cons_succ])
            | (refine Sch.tn_load _ _ _ _ _ rfl rfl rfl rfl (by first | exact Kn.a | exact Kn.b | exact Kn.c | exact Kn.z | exact Kn.r) rfl ?_; simp only [Act.put, List.setIfInBounds_toArray, List.set_cons_zero, List.set_cons_succ]))
          exact known_t6 w _ B g3 g4 g5 g7 r _ _ _ _ _ _ _ _ _ _ _ _ _ _ _ _ _ _ _ _ _ _ _ _ _ _ _ _ _ _ _ _ _ _ _ _ _ _ _ _ _ _ _ _ _ _ _ _ _ _ _ _ _ _ _ _ _ _ _ _ _ _ _ _ _ _ _ _ _ _ _ _ _ _ _ _ _ _ _ _ _ _ _ _ _ _ _ _ _ _ _ _ _ _ _ _ _ _ _ _ _ _ _ _ _ _ _ _ _ _ _ _ _ _ _ _ _ _ _ _ Q HK HR HB HA HD HE hQ
        · skip
          refine Sch.tn_e rfl rfl (fun K hK => ?_)
          have hbn := bel_box w122 (.cells #[.int .i64 1, .int .i64 1, .int .i64 0, .int .i64 0, .int .i64 1, .int .i32 97, .int .i64 2, .int .i64 2, .int .i64 1, .int .i64 1, .int .i64 2, .int .i32 0] 35)
          replace HK := Lib.hid (HK.out.keep hbn)
          replace HR := Lib.hid (HR.out.keep hbn)
          replace HA := Lib.hid (HA.out.keep hbn)
          replace HB := bel_tr HB hbn
          have HE := Lib.hid (RowN.lit w122 [kA, ((2, 2), (1, 1), 2, 0)] #[.int .i64 1, .int .i64 1, .int .i64 0, .int .i64 0, .int .i64 1, .int .i32 97, .int .i64 2, .int .i64 2, .int .i64 1, .int .i64 1, .int .i64 2, .int .i32 0] 35 (0, 0) rfl)
          clear hbn
          go_wp2_with fail
          refine hK _ _ HK.out ?_
          clear hK K
          generalize w122.alloc (.cells #[.int .i64 1, .int .i64 1, .int .i64 0, .int .i64 0, .int .i64 1, .int .i32 97, .int .i64 2, .int .i64 2, .int .i64 1, .int .i64 1, .int .i64 2, .int .i32 0] 35) = w123 at *
          generalize w122.heap.size = a123 at *
          repeat (first
            | (refine Sch.tn_q rfl rfl rfl (fun K hK => ?_); go_big_quiet_op; (first | refine hK _ ?_ | refine ⟨_, fun _ _ => rfl, hK _ ?_⟩); clear hK K)
            | (refine Sch.tn_chk _ _ _ rfl rfl rfl rfl rfl ?_; simp only [Act.put, List.setIfInBounds_toArray, List.set_cons_zero, List.set_cons_succ])
            | (refine Sch.tn_load _ _ _ _ _ rfl rfl rfl rfl (by first | exact Kn.a | exact Kn.b | exact Kn.c | exact Kn.z | exact Kn.r) rfl ?_; simp only [Act.put, List.setIfInBounds_toArray, List.set_cons_zero, List.set_cons_succ]))
          refine Sch.tn_two ?_ ?_
          · skip
            refine Sch.tn_e rfl rfl (fun K hK => ?_)
            have hbn := bel_box w123 (.cells #[.int .i64 2, .int .i64 2, .int .i64 2, .int .i64 2] 33)
            replace HK := Lib.hid (HK.out.keep hbn)
            replace HR := Lib.hid (HR.out.keep hbn)
            replace HA := Lib.hid (HA.out.keep hbn)
            replace HE := Lib.hid (HE.out.keep hbn)
            replace HB := bel_tr HB hbn
            have HD := Lib.hid (RowD.lit w123 [(2, 2), (2, 2)] #[.int .i64 2, .int .i64 2, .int .i64 2, .int .i64 2] 33 (0, 0) rfl)
            clear hbn
            go_wp2_with fail
            refine hK _ _ HK.out ?_
            clear hK K
            generalize w123.alloc (.cells #[.int .i64 2, .int .i64 2, .int .i64 2, .int .i64 2] 33) = w124 at *
            generalize w123.heap.size = a124 at *
            repeat (first
              | (refine Sch.tn_q rfl rfl rfl (fun K hK => ?_); go_big_quiet_op; (first | refine hK _ ?_ | refine ⟨_, fun _ _ => rfl, hK _ ?_⟩); clear hK K)
              | (refine Sch.tn_chk _ _ _ rfl rfl rfl rfl rfl ?_; simp only [Act.put, List.setIfInBounds_toArray, List.set_cons_zero, List.set_cons_succ])
              | (refine Sch.tn_load _ _ _ _ _ rfl rfl rfl rfl (by first | exact Kn.a | exact Kn.b | exact Kn.c | exact Kn.z | exact Kn.r) rfl ?_; simp only [Act.put, List.setIfInBounds_toArray, List.set_cons_zero, List.set_cons_succ]))
            refine Sch.tn_e rfl rfl (fun K hK => ?_)
            go_wp2_with fail
            refine (nodes_any _ _).mono ?_
            rintro e w125 ⟨rfl, rfl⟩
            refine hK _ _ HK.out ?_
            clear hK K
            repeat (first
              | (refine Sch.tn_q rfl rfl rfl (fun K hK => ?_); go_big_quiet_op; (first | refine hK _ ?_ | refine ⟨_, fun _ _ => rfl, hK _ ?_⟩); clear hK K)
              | (refine Sch.tn_chk _ _ _ rfl rfl rfl rfl rfl ?_; simp only [Act.put, List.setIfInBounds_toArray, List.set_cons_zero, List.set_cons_succ])
              | (refine Sch.tn_load _ _ _ _ _ rfl rfl rfl rfl (by first | exact Kn.a | exact Kn.b | exact Kn.c | exact Kn.z | exact Kn.r) rfl ?_; simp only [Act.put, List.setIfInBounds_toArray, List.set_cons_zero, List.set_cons_succ]))
            exact known_t6 w _ B g3 g4 g5 g7 r _ _ _ _ _ _ _ _ _ _ _ _ _ _ _ _ _ _ _ _ _ _ _ _ _ _ _ _ _ _ _ _ _ _ _ _ _ _ _ _ _ _ _ _ _ _ _ _ _ _ _ _ _ _ _ _ _ _ _ _ _ _ _ _ _ _ _ _ _ _ _ _ _ _ _ _ _ _ _ _ _ _ _ _ _ _ _ _ _ _ _ _ _ _ _ _ _ _ _ _ _ _ _ _ _ _ _ _ _ _ _ _ _ _ _ _ _ _ _ _ Q HK HR HB HA HD HE hQ
          · skip
            refine Sch.tn_e rfl rfl (fun K hK => ?_)
            go_wp2_with fail
            refine (nodes_any _ _).mono ?_
            rintro e w124 ⟨rfl, rfl⟩
            refine hK _ _ HK.out ?_
            clear hK K
            repeat (first
              | (refine Sch.tn_q rfl rfl rfl (fun K hK => ?_); go_big_quiet_op; (first | refine hK _ ?_ | refine ⟨_, fun _ _ => rfl, hK _ ?_⟩); clear hK K)
              | (refine Sch.tn_chk _ _ _ rfl rfl rfl rfl rfl ?_; simp only [Act.put, List.setIfInBounds_toArray, List.set_cons_zero, List.set_cons_succ])
              | (refine Sch.tn_load _ _ _ _ _ rfl rfl rfl rfl (by first | exact Kn.a | exact Kn.b | exact Kn.c | exact Kn.z | exact Kn.r) rfl ?_; simp only [Act.put, List.setIfInBounds_toArray, List.set_cons_zero, List.set_cons_succ]))
            refine Sch.tn_e rfl rfl (fun K hK => ?_)
            have hbn := bel_box w124 (.cells #[.int .i64 2, .int .i64 2, .int .i64 2, .int .i64 2] 33)
            replace HK := Lib.hid (HK.out.keep hbn)
            replace HR := Lib.hid (HR.out.keep hbn)
            replace HA := Lib.hid (HA.out.keep hbn)
            replace HE := Lib.hid (HE.out.keep hbn)
            replace HB := bel_tr HB hbn
            have HD := Lib.hid (RowD.lit w124 [(2, 2), (2, 2)] #[.int .i64 2, .int .i64 2, .int .i64 2, .int .i64 2] 33 (0, 0) rfl)
            clear hbn
            go_wp2_with fail
            refine hK _ _ HK.out ?_
            clear hK K
            generalize w124.alloc (.cells #[.int .i64 2, .int .i64 2, .int .i64 2, .int .i64 2] 33) = w125 at *
            generalize w124.heap.size = a125 at *
            repeat (first
              | (refine Sch.tn_q rfl rfl rfl (fun K hK => ?_); go_big_quiet_op; (first | refine hK _ ?_ | refine ⟨_, fun _ _ => rfl, hK _ ?_⟩); clear hK K)
              | (refine Sch.tn_chk _ _ _ rfl rfl rfl rfl rfl ?_; simp only [Act.put, List.setIfInBounds_toArray, List.set_cons_zero, List.set_cons_succ])
              | (refine Sch.tn_load _ _ _ _ _ rfl rfl rfl rfl (by first | exact Kn.a | exact Kn.b | exact Kn.c | exact Kn.z | exact Kn.r) rfl ?_; simp only [Act.put, List.setIfInBounds_toArray, List.set_cons_zero, List.set_cons_succ]))
            exact known_t6 w _ B g3 g4 g5 g7 r _ _ _ _ _ _ _ _ _ _ _ _ _ _ _ _ _ _ _ _ _ _ _ _ _ _ _ _ _ _ _ _ _ _ _ _ _ _ _ _ _ _ _ _ _ _ _ _ _ _ _ _ _ _ _ _ _ _ _ _ _ _ _ _ _ _ _ _ _ _ _ _ _ _ _ _ _ _ _ _ _ _ _ _ _ _ _ _ _ _ _ _ _ _ _ _ _ _ _ _ _ _ _ _ _ _ _ _ _ _ _ _ _ _ _ _ _ _ _ _ Q HK HR HB HA HD HE hQ
end Go.Proofs.YtfpfihmihlmobaaGreat.Qs
