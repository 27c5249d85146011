/-
  The law of texts.
-/
import Derived.Test.YtjdhdnlcaonnkaaDoorDLawA
namespace Go.Proofs.YtjdhdnlcaonnkaaDoor.D
set_option linter.unusedVariables false
open Go.RowKit V Go.Sort

/-- One box with a dot. -/
def K1 (g : Nat) (x : Dt) (w : World) : Prop := Bx w g x
theorem K1.l {g : Nat} {x : Dt} : ∀ w, K1 g x w → (Instr.loadAt 23 (.pointer (some ⟨g, 0, none⟩))).run Tryd.prog w = .ok (.agg #[.int .i64 x.1, .int .i64 x.2]) w := fun w h => Bx.load h
/-- The reference and the program read the same. -/
theorem prs_two (s : List UInt8) : (prsB s = ((0, 0), false) ∧ prsR s = ((0, 0), 6)) ∨ ∃ y, prsB s = (y, true) ∧ prsR s = (y, 0) := by
  unfold prsB prsR
  rcases prsD s with _ | y
  · exact .inl ⟨rfl, rfl⟩
  · exact .inr ⟨y, rfl, rfl⟩

set_option maxRecDepth 100000 in
set_option maxHeartbeats 4000000 in
theorem texts_law (x : Dt) (s : List UInt8) (w : World) (hL : Ld w) (hlen : s.length ≤ 9223372036854775807) : Calls Tryd.prog 6 #[dv x, .string ⟨s.toArray⟩] w fun e w' => e = .returned (.bool true) ∧ Below w.heap.size w w' := by
  have HLd := Lib.hid hL
  have HKn := Lib.hid (fun w hL => known_any w hL)
  have hsz := ba_size s
  by_cases h60 : 60 < s.length
  · have hg : (60 : Int) < ((⟨s.toArray⟩ : ByteArray).size : Int) := by omega
    clear h60 hsz hlen hL
    generalize (⟨s.toArray⟩ : ByteArray) = S at *
    go_enter Tryd.func6, Tryd.ntmps6
    go_wp2_with fail
    have hB := bel_box w (Obj.cells #[.int .i64 x.1, .int .i64 x.2] 23)
    refine (HKn.out _ (HLd.out.below hB)).mono ?_
    rintro e w2 ⟨rfl, hb⟩
    have HB := bel_tr (Lib.hid hB) hb
    clear hB hb
    go_wp2_with fail
    go_ret
    exact ⟨rfl, HB.out⟩
  · have hg : ¬ (60 : Int) < ((⟨s.toArray⟩ : ByteArray).size : Int) := by omega
    have HPB := Lib.hid (fun w => parse_ref s w (by omega))
    have HPa := Lib.hid (fun d q w hL (h : prsR s = (d, q)) => parses_any s d q w hL (by omega) h)
    have HCase := Lib.hid (prs_two s)
    have HV := Lib.hid (fun w => valid_ref x w)
    have HR := Lib.hid (fun w => root_ref x w)
    have HTx := Lib.hid (fun t q w hL (h : txtR x = (t, q)) => texts_any x t q w hL h)
    have HTr := Lib.hid (fun h w => text_ref x h w)
    clear h60 hsz hlen hL
    generalize hS : (⟨s.toArray⟩ : ByteArray) = S at hg HPB HPa ⊢
    clear hS
    go_enter Tryd.func6, Tryd.ntmps6
    go_wp2_with fail
    have hK0 : Bx (w.alloc (Obj.cells #[.int .i64 x.1, .int .i64 x.2] 23)) w.heap.size x := by refine ⟨?_, ?_⟩ <;> go_simp
    have HB := Lib.hid (bel_box w (Obj.cells #[.int .i64 x.1, .int .i64 x.2] 23))
    generalize w.alloc (Obj.cells #[.int .i64 x.1, .int .i64 x.2] 23) = w1 at *
    have HK := Lib.hid hK0
    clear hK0
    refine (HV.out _).mono ?_
    rintro e w2 ⟨rfl, hb⟩
    replace HK := Lib.hid (HK.out.keep hb)
    replace HB := bel_tr HB hb
    clear hb
    rcases hv : validR x with _ | _
    · rcases hr : rootR x with _ | _
      · have k0 := HK.out.1
        have k1 := HK.out.2
        go_wp2_with fail
        refine (HR.out _).mono ?_
        rintro e w4 ⟨rfl, hb⟩
        replace HK := Lib.hid (HK.out.keep hb)
        replace HB := bel_tr HB hb
        clear hb
        rw [hr]
        clear k0 k1
        have k0 := HK.out.1
        have k1 := HK.out.2
        go_wp2_with fail
        refine (HTx.out _ _ _ (HLd.out.below HB.out) (txtR_no hv hr)).mono ?_
        rintro e w5 ⟨rfl, hb⟩
        replace HK := Lib.hid (HK.out.keep hb)
        replace HB := bel_tr HB hb
        clear hb
        clear k0 k1
        go_wp2_with fail
        refine (HPB.out _).mono ?_
        rintro e wp ⟨rfl, hb⟩
        replace HK := Lib.hid (HK.out.keep hb)
        replace HB := bel_tr HB hb
        clear hb
        rcases HCase.out with ⟨h1, h2⟩ | ⟨y, h1, h2⟩
        · rw [h1]
          have H2 := Lib.hid h2
          clear h1 h2
          go_wp2_with fail
          replace HB := bel_tr HB (bel_box wp (Obj.cells #[.int .i64 (0, 0).1, .int .i64 (0, 0).2] 23))
          refine (HPa.out (0, 0) 6 (wp.alloc (Obj.cells #[.int .i64 (0, 0).1, .int .i64 (0, 0).2] 23)) (HLd.out.below HB.out) H2.out).mono ?_
          rintro e wq ⟨rfl, hb⟩
          replace HB := bel_tr HB hb
          clear hb
          go_wp2_with fail
          refine (HKn.out _ (HLd.out.below HB.out)).mono ?_
          rintro e wr ⟨rfl, hb⟩
          replace HB := bel_tr HB hb
          clear hb
          go_wp2_with fail
          go_ret
          exact ⟨rfl, HB.out⟩
        · rw [h1]
          have H2 := Lib.hid h2
          clear h1 h2
          go_wp2_with fail
          replace HB := bel_tr HB (bel_box wp (Obj.cells #[.int .i64 y.1, .int .i64 y.2] 23))
          refine (HPa.out y 0 (wp.alloc (Obj.cells #[.int .i64 y.1, .int .i64 y.2] 23)) (HLd.out.below HB.out) H2.out).mono ?_
          rintro e wq ⟨rfl, hb⟩
          replace HB := bel_tr HB hb
          clear hb
          go_wp2_with fail
          refine (HKn.out _ (HLd.out.below HB.out)).mono ?_
          rintro e wr ⟨rfl, hb⟩
          replace HB := bel_tr HB hb
          clear hb
          go_wp2_with fail
          go_ret
          exact ⟨rfl, HB.out⟩
      · have k0 := HK.out.1
        have k1 := HK.out.2
        go_wp2_with fail
        refine (HR.out _).mono ?_
        rintro e w4 ⟨rfl, hb⟩
        replace HK := Lib.hid (HK.out.keep hb)
        replace HB := bel_tr HB hb
        clear hb
        rw [hr]
        clear k0 k1
        go_wp2_with fail
        refine Sch.wp_region_tree (K1 w.heap.size x) (.take 0 (.take 1 (.one 2 (.one 3 (.take 4 .done))))) (by kernel_rfl) (by kernel_rfl) (HK.out.keep ((Below.refl _ _).drew)) ?_
        replace HK := Lib.hid (HK.out.keep ((Below.refl w4.heap.size w4).drew))
        replace HB := Lib.hid HB.out.drew
        generalize w4.drew = w5 at *
        repeat (first
          | (refine Sch.tree_q rfl rfl (fun K hK => ?_); go_big_quiet_op; (first | refine hK _ ?_ | refine ⟨_, fun _ _ => rfl, hK _ ?_⟩); clear hK K)
          | (refine tree_load _ _ _ _ _ rfl rfl rfl rfl K1.l rfl ?_; simp only [Act.put, List.setIfInBounds_toArray, List.set_cons_zero, List.set_cons_succ]))
        refine Sch.tree_e rfl rfl (fun K hK => ?_)
        go_wp2_with fail
        refine (HTr.out (.inr hr) _).mono ?_
        rintro e w6 ⟨rfl, hb⟩
        replace HK := Lib.hid (HK.out.keep hb)
        replace HB := bel_tr HB hb
        clear hb
        refine hK _ _ HK.out ?_
        clear hK K
        refine Sch.tree_e rfl rfl (fun K hK => ?_)
        go_wp2_with fail
        refine (HTx.out _ _ _ (HLd.out.below HB.out) (by rw [root_iff.1 hr]; rfl)).mono ?_
        rintro e w7 ⟨rfl, hb⟩
        replace HK := Lib.hid (HK.out.keep hb)
        replace HB := bel_tr HB hb
        clear hb
        refine hK _ _ HK.out ?_
        clear hK K
        repeat (first
          | (refine Sch.tree_q rfl rfl (fun K hK => ?_); go_big_quiet_op; (first | refine hK _ ?_ | refine ⟨_, fun _ _ => rfl, hK _ ?_⟩); clear hK K)
          | (refine tree_load _ _ _ _ _ rfl rfl rfl rfl K1.l rfl ?_; simp only [Act.put, List.setIfInBounds_toArray, List.set_cons_zero, List.set_cons_succ]))
        refine Sch.tree_n ?_
        have k0 := HK.out.1
        have k1 := HK.out.2
        clear k0 k1
        go_wp2_with fail
        refine (HPB.out _).mono ?_
        rintro e wp ⟨rfl, hb⟩
        replace HK := Lib.hid (HK.out.keep hb)
        replace HB := bel_tr HB hb
        clear hb
        rcases HCase.out with ⟨h1, h2⟩ | ⟨y, h1, h2⟩
        · rw [h1]
          have H2 := Lib.hid h2
          clear h1 h2
          go_wp2_with fail
          replace HB := bel_tr HB (bel_box wp (Obj.cells #[.int .i64 (0, 0).1, .int .i64 (0, 0).2] 23))
          refine (HPa.out (0, 0) 6 (wp.alloc (Obj.cells #[.int .i64 (0, 0).1, .int .i64 (0, 0).2] 23)) (HLd.out.below HB.out) H2.out).mono ?_
          rintro e wq ⟨rfl, hb⟩
          replace HB := bel_tr HB hb
          clear hb
          go_wp2_with fail
          refine (HKn.out _ (HLd.out.below HB.out)).mono ?_
          rintro e wr ⟨rfl, hb⟩
          replace HB := bel_tr HB hb
          clear hb
          go_wp2_with fail
          go_ret
          exact ⟨rfl, HB.out⟩
        · rw [h1]
          have H2 := Lib.hid h2
          clear h1 h2
          go_wp2_with fail
          replace HB := bel_tr HB (bel_box wp (Obj.cells #[.int .i64 y.1, .int .i64 y.2] 23))
          refine (HPa.out y 0 (wp.alloc (Obj.cells #[.int .i64 y.1, .int .i64 y.2] 23)) (HLd.out.below HB.out) H2.out).mono ?_
          rintro e wq ⟨rfl, hb⟩
          replace HB := bel_tr HB hb
          clear hb
          go_wp2_with fail
          refine (HKn.out _ (HLd.out.below HB.out)).mono ?_
          rintro e wr ⟨rfl, hb⟩
          replace HB := bel_tr HB hb
          clear hb
          go_wp2_with fail
          go_ret
          exact ⟨rfl, HB.out⟩
    · go_wp2_with fail
      refine Sch.wp_region_tree (K1 w.heap.size x) (.take 0 (.take 1 (.one 2 (.one 3 (.take 4 .done))))) (by kernel_rfl) (by kernel_rfl) (HK.out.keep ((Below.refl _ _).drew)) ?_
      replace HK := Lib.hid (HK.out.keep ((Below.refl w2.heap.size w2).drew))
      replace HB := Lib.hid HB.out.drew
      generalize w2.drew = w3 at *
      repeat (first
        | (refine Sch.tree_q rfl rfl (fun K hK => ?_); go_big_quiet_op; (first | refine hK _ ?_ | refine ⟨_, fun _ _ => rfl, hK _ ?_⟩); clear hK K)
        | (refine tree_load _ _ _ _ _ rfl rfl rfl rfl K1.l rfl ?_; simp only [Act.put, List.setIfInBounds_toArray, List.set_cons_zero, List.set_cons_succ]))
      refine Sch.tree_e rfl rfl (fun K hK => ?_)
      go_wp2_with fail
      refine (HTr.out (.inl hv) _).mono ?_
      rintro e w4 ⟨rfl, hb⟩
      replace HK := Lib.hid (HK.out.keep hb)
      replace HB := bel_tr HB hb
      clear hb
      refine hK _ _ HK.out ?_
      clear hK K
      refine Sch.tree_e rfl rfl (fun K hK => ?_)
      go_wp2_with fail
      refine (HTx.out _ _ _ (HLd.out.below HB.out) (txtR_valid hv)).mono ?_
      rintro e w5 ⟨rfl, hb⟩
      replace HK := Lib.hid (HK.out.keep hb)
      replace HB := bel_tr HB hb
      clear hb
      refine hK _ _ HK.out ?_
      clear hK K
      repeat (first
        | (refine Sch.tree_q rfl rfl (fun K hK => ?_); go_big_quiet_op; (first | refine hK _ ?_ | refine ⟨_, fun _ _ => rfl, hK _ ?_⟩); clear hK K)
        | (refine tree_load _ _ _ _ _ rfl rfl rfl rfl K1.l rfl ?_; simp only [Act.put, List.setIfInBounds_toArray, List.set_cons_zero, List.set_cons_succ]))
      refine Sch.tree_n ?_
      have k0 := HK.out.1
      have k1 := HK.out.2
      clear k0 k1
      go_wp2_with fail
      refine (HPB.out _).mono ?_
      rintro e wp ⟨rfl, hb⟩
      replace HK := Lib.hid (HK.out.keep hb)
      replace HB := bel_tr HB hb
      clear hb
      rcases HCase.out with ⟨h1, h2⟩ | ⟨y, h1, h2⟩
      · rw [h1]
        have H2 := Lib.hid h2
        clear h1 h2
        go_wp2_with fail
        replace HB := bel_tr HB (bel_box wp (Obj.cells #[.int .i64 (0, 0).1, .int .i64 (0, 0).2] 23))
        refine (HPa.out (0, 0) 6 (wp.alloc (Obj.cells #[.int .i64 (0, 0).1, .int .i64 (0, 0).2] 23)) (HLd.out.below HB.out) H2.out).mono ?_
        rintro e wq ⟨rfl, hb⟩
        replace HB := bel_tr HB hb
        clear hb
        go_wp2_with fail
        refine (HKn.out _ (HLd.out.below HB.out)).mono ?_
        rintro e wr ⟨rfl, hb⟩
        replace HB := bel_tr HB hb
        clear hb
        go_wp2_with fail
        go_ret
        exact ⟨rfl, HB.out⟩
      · rw [h1]
        have H2 := Lib.hid h2
        clear h1 h2
        go_wp2_with fail
        replace HB := bel_tr HB (bel_box wp (Obj.cells #[.int .i64 y.1, .int .i64 y.2] 23))
        refine (HPa.out y 0 (wp.alloc (Obj.cells #[.int .i64 y.1, .int .i64 y.2] 23)) (HLd.out.below HB.out) H2.out).mono ?_
        rintro e wq ⟨rfl, hb⟩
        replace HB := bel_tr HB hb
        clear hb
        go_wp2_with fail
        refine (HKn.out _ (HLd.out.below HB.out)).mono ?_
        rintro e wr ⟨rfl, hb⟩
        replace HB := bel_tr HB hb
        clear hb
        go_wp2_with fail
        go_ret
        exact ⟨rfl, HB.out⟩
end Go.Proofs.YtjdhdnlcaonnkaaDoor.D
