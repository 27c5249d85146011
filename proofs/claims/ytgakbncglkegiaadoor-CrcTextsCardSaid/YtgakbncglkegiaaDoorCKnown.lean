/-
  The examples.
-/
import Derived.Test.YtgakbncglkegiaaDoorCMark
import Derived.Test.YtgakbncglkegiaaDoorSched
import Derived.Deep.RegionWith
import Derived.RegionTactic
import Derived.Deep.CutRange
namespace Go.Proofs.YtgakbncglkegiaaDoor.C
set_option linter.unusedVariables false
open Go.RowKit V

/-- The slice of the five bytes is read as a string. -/
def Cv (g : Nat) (w : World) : Prop := Sem.run Tryd.prog (convert 23 9 (.slice (some ⟨g, 0, none⟩) 5 5)) w = .ok (.string ⟨#[97, 193, 208, 67, 48]⟩) w
theorem bel_two {w W0 W : World} (h : Hid (Below w.heap.size w W0)) (k : Hid (Below W0.heap.size W0 W)) : Hid (Below w.heap.size w W) := h.out.trans (k.out.mono h.out.size)
theorem cv_of {g : Nat} {w : World} (h : Row8 w (some ⟨g, 0, none⟩) [97, 193, 208, 67, 48]) : Cv g w := G.conv_row (P := Tryd.prog) h 5 rfl 5 23 9 5 Tryd.underlying23 Tryd.underlying5 Tryd.underlying9

set_option maxRecDepth 100000 in
set_option maxHeartbeats 40000000 in
theorem known_any (w : World) (hL : Ld w) : Calls Tryd.prog 8 #[] w fun e w' => e = .returned (.bool true) ∧ Below w.heap.size w w' := by
  have HL := Lib.hid hL
  have kc := const_run
  have HS0 := Lib.hid (fun a c (wx : World) h hr => sum_lit [] 0 0 rfl (by rw [k_sum0]; rfl) a c wx h hr (by simp))
  have HS1 := Lib.hid (fun a c (wx : World) h hr => sum_lit [97] 1 3251651376 rfl (by rw [k_sum1]; rfl) a c wx h hr (by simp))
  have HS3 := Lib.hid (fun a c (wx : World) h hr => sum_lit [97, 98, 99] 3 910901175 rfl (by rw [k_sum3]; rfl) a c wx h hr (by simp))
  have HS9 := Lib.hid (fun a c (wx : World) h hr => sum_lit [49, 50, 51, 52, 53, 54, 55, 56, 57] 9 3808858755 rfl (by rw [k_sum9]; rfl) a c wx h hr (by simp))
  have HS5 := Lib.hid (fun a c (wx : World) h hr => sum_lit [49, 50, 51, 52, 53] 5 416359221 rfl (by rw [k_sum5]; rfl) a c wx h hr (by simp))
  have HT0 := Lib.hid (fun (wx : World) h => text_lit 0 0 (by omega) rfl [48, 48, 48, 48, 48, 48, 48, 48] k_txt0 wx h)
  have HT1 := Lib.hid (fun (wx : World) h => text_lit 3251651376 3251651376 (by omega) rfl [99, 49, 100, 48, 52, 51, 51, 48] k_txt1 wx h)
  have HT3 := Lib.hid (fun (wx : World) h => text_lit 910901175 910901175 (by omega) rfl [51, 54, 52, 98, 51, 102, 98, 55] k_txt3 wx h)
  have HT9 := Lib.hid (fun (wx : World) h => text_lit 3808858755 3808858755 (by omega) rfl [101, 51, 48, 54, 57, 50, 56, 51] k_txt9 wx h)
  have HU := Lib.hid (fun a c (wx : World) h hr => upd_lit 416359221 416359221 (by omega) rfl [54, 55, 56, 57] 4 3808858755 rfl (by rw [k_upd]; rfl) a c wx h hr (by simp))
  have hA : ∀ a c (wx : World), Ld wx → Row8 wx a [97] → (a = none → c = 0) → Calls Tryd.prog 13 #[.slice a 1 c] wx fun e w' => ∃ v, e = .returned v ∧ O8 w' wx.heap.size v [97, 193, 208, 67, 48] ∧ Below wx.heap.size wx w' := by
    intro a c wx h hr hn
    have := append_any [97] a c wx h hr hn (by simp)
    rw [k_app] at this
    exact this
  have HA := Lib.hid hA
  clear hA
  have HO1 := Lib.hid (fun a c b d (wx : World) h hl hr hn hc => opens_any [97, 193, 208, 67, 48] a 5 c [97] b 1 d 0 wx h rfl rfl (by rw [k_opn5]) (by rw [k_opn5]; rfl) hl hr hn hc (by simp))
  have HO2 := Lib.hid (fun a c b d (wx : World) h hl hr hn hc => opens_any [] a 0 c [] b 0 d 4 wx h rfl rfl (by rw [k_opn0]) (by rw [k_opn0]; rfl) hl hr hn hc (by simp))
  have HO3 := Lib.hid (fun a c b d (wx : World) h hl hr hn hc => opens_any [0, 0, 0, 0] a 4 c [] b 0 d 0 wx h rfl rfl (by rw [k_opn4]) (by rw [k_opn4]; rfl) hl hr hn hc (by simp))
  have HO4 := Lib.hid (fun a c b d (wx : World) h hl hr hn hc => opens_any [0, 0, 0, 1] a 4 c [] b 0 d 10 wx h rfl rfl (by rw [k_opn41]) (by rw [k_opn41]; rfl) hl hr hn hc (by simp))
  have HO5 := Lib.hid (fun a c b d (wx : World) h hl hr hn hc => opens_any [97, 193, 208, 67, 49] a 5 c [] b 0 d 10 wx h rfl rfl (by rw [k_opn51]) (by rw [k_opn51]; rfl) hl hr hn hc (by simp))
  have HP1 := Lib.hid (fun (wx : World) h => parses_yes 3251651376 (by omega) ⟨#[99, 49, 100, 48, 52, 51, 51, 48]⟩ (by rw [k_txt1]) wx h)
  have HP2 := Lib.hid (fun (wx : World) h => parses_not [67, 49, 68, 48, 52, 51, 51, 48] k_not (by simp) wx h)
  go_enter Tryd.func8, Tryd.ntmps8
  have HB : Hid (Below w.heap.size w w) := Below.refl _ _
  go_wp2_with fail
  refine (HS0.out _ _ _ HL.out (.inl rfl)).mono ?_
  rintro e w1 ⟨rfl, rfl⟩
  go_wp2_with fail
  refine (HT0.out _ HL.out).mono ?_
  rintro e w1 ⟨rfl, hb⟩
  replace HB := bel_tr HB hb
  clear hb HS0 HT0
  go_wp2_with fail
  replace HB := bel_a (.cells #[.int .u8 97] 5 (1, 2)) HB
  refine (HS1.out _ _ (w1.alloc (.cells #[.int .u8 97] 5 (1, 2))) (HL.out.below HB.out) ((Blk.const w1 #[.int .u8 97] (1, 2)).row rfl)).mono ?_
  rintro e w' ⟨rfl, rfl⟩
  go_wp2_with fail
  refine (HT1.out _ (HL.out.below HB.out)).mono ?_
  rintro e w2 ⟨rfl, hb⟩
  replace HB := bel_tr HB hb
  clear hb HS1 HT1
  go_wp2_with fail
  replace HB := bel_a (.cells #[.int .u8 97, .int .u8 98, .int .u8 99] 5 (3, 4)) HB
  refine (HS3.out _ _ (w2.alloc (.cells #[.int .u8 97, .int .u8 98, .int .u8 99] 5 (3, 4))) (HL.out.below HB.out) ((Blk.const w2 #[.int .u8 97, .int .u8 98, .int .u8 99] (3, 4)).row rfl)).mono ?_
  rintro e w' ⟨rfl, rfl⟩
  go_wp2_with fail
  refine (HT3.out _ (HL.out.below HB.out)).mono ?_
  rintro e w3 ⟨rfl, hb⟩
  replace HB := bel_tr HB hb
  clear hb HS3 HT3
  go_wp2_with fail
  replace HB := bel_a (.cells #[.int .u8 49, .int .u8 50, .int .u8 51, .int .u8 52, .int .u8 53, .int .u8 54, .int .u8 55, .int .u8 56, .int .u8 57] 5 (9, 10)) HB
  refine (HS9.out _ _ (w3.alloc (.cells #[.int .u8 49, .int .u8 50, .int .u8 51, .int .u8 52, .int .u8 53, .int .u8 54, .int .u8 55, .int .u8 56, .int .u8 57] 5 (9, 10))) (HL.out.below HB.out) ((Blk.const w3 #[.int .u8 49, .int .u8 50, .int .u8 51, .int .u8 52, .int .u8 53, .int .u8 54, .int .u8 55, .int .u8 56, .int .u8 57] (9, 10)).row rfl)).mono ?_
  rintro e w' ⟨rfl, rfl⟩
  go_wp2_with fail
  refine (HT9.out _ (HL.out.below HB.out)).mono ?_
  rintro e w4 ⟨rfl, hb⟩
  replace HB := bel_tr HB hb
  clear hb HS9
  have hba : Hid (Blk (w4.alloc (.cells #[.int .u8 97, .int .u8 193, .int .u8 208, .int .u8 67, .int .u8 48] 5)) w4.heap.size #[.int .u8 97, .int .u8 193, .int .u8 208, .int .u8 67, .int .u8 48]) := Blk.new w4 #[.int .u8 97, .int .u8 193, .int .u8 208, .int .u8 67, .int .u8 48]
  go_wp2_with fail
  replace HB := bel_a (.cells #[.int .u8 97, .int .u8 193, .int .u8 208, .int .u8 67, .int .u8 48] 5) HB
  generalize (w4.alloc (.cells #[.int .u8 97, .int .u8 193, .int .u8 208, .int .u8 67, .int .u8 48] 5)) = w5 at *
  have HRa : Hid (Row8 w5.drew (some ⟨w4.heap.size, 0, none⟩) [97, 193, 208, 67, 48]) := (hba.out.row rfl).drew
  replace HB : Hid (Below w.heap.size w w5.drew) := HB.out.drew
  clear hba
  go_cut [49] from 27 to 48 (fun c wx => c = .bool false ∧ Hid (Below w.heap.size w wx))
  case rest =>
    obtain ⟨rfl, HB⟩ := hcut
    go_wp2_with fail
    refine (HO2.out _ _ _ _ _ (HL.out.below HB.out) (.inl rfl) (.inl rfl) (fun h => rfl) (by simp)).mono ?_
    rintro e V1 ⟨rfl, hb⟩
    replace HB := bel_tr HB hb
    clear hb
    go_wp2_with fail
    replace HB := bel_a (.cells #[.int .u8 0, .int .u8 0, .int .u8 0, .int .u8 0] 5) HB
    refine (HO3.out _ _ _ _ (V1.alloc (.cells #[.int .u8 0, .int .u8 0, .int .u8 0, .int .u8 0] 5)) (HL.out.below HB.out) ((Blk.new V1 #[.int .u8 0, .int .u8 0, .int .u8 0, .int .u8 0]).row rfl) (.inl rfl) (fun h => by cases h) (by simp)).mono ?_
    rintro e V2 ⟨rfl, hb⟩
    replace HB := bel_tr HB hb
    clear hb
    go_wp2_with fail
    replace HB := bel_a (.cells #[.int .u8 0, .int .u8 0, .int .u8 0, .int .u8 1] 5) HB
    refine (HO4.out _ _ _ _ (V2.alloc (.cells #[.int .u8 0, .int .u8 0, .int .u8 0, .int .u8 1] 5)) (HL.out.below HB.out) ((Blk.new V2 #[.int .u8 0, .int .u8 0, .int .u8 0, .int .u8 1]).row rfl) (.inl rfl) (fun h => by cases h) (by simp)).mono ?_
    rintro e V3 ⟨rfl, hb⟩
    replace HB := bel_tr HB hb
    clear hb
    go_wp2_with fail
    replace HB := bel_a (.cells #[.int .u8 97, .int .u8 193, .int .u8 208, .int .u8 67, .int .u8 49] 5) HB
    refine (HO5.out _ _ _ _ (V3.alloc (.cells #[.int .u8 97, .int .u8 193, .int .u8 208, .int .u8 67, .int .u8 49] 5)) (HL.out.below HB.out) ((Blk.new V3 #[.int .u8 97, .int .u8 193, .int .u8 208, .int .u8 67, .int .u8 49]).row rfl) (.inl rfl) (fun h => by cases h) (by simp)).mono ?_
    rintro e V4 ⟨rfl, hb⟩
    replace HB := bel_tr HB hb
    clear hb
    go_wp2_with fail
    refine (HP1.out _ (HL.out.below HB.out)).mono ?_
    rintro e V5 ⟨rfl, hb⟩
    replace HB := bel_tr HB hb
    clear hb
    go_wp2_with fail
    refine (HP2.out _ (HL.out.below HB.out)).mono ?_
    rintro e V6 ⟨rfl, hb⟩
    replace HB := bel_tr HB hb
    clear hb
    go_wp2_with fail
    go_ret
    exact ⟨rfl, HB.out⟩
  refine Sch.wp_region_tree (Cv w4.heap.size) (.two 0 (.two 1 (.two 2 (.one 3 (.one 4 (.one 5 (.one 6 (.take 7 (.take 8 (.take 13 (.take 14 (.one 9 (.one 10 (.one 11 (.one 12 (.take 15 (.take 16 (.take 17 (.take 18 (.one 19 (.one 20 (.take 21 (.take 22 .done)))))))))))))))))))) 3 (.two 2 (.one 4 (.one 5 (.one 6 (.take 7 (.take 8 (.take 13 (.take 14 (.one 9 (.one 10 (.one 11 (.one 12 (.take 15 (.take 16 (.take 17 (.take 18 (.one 19 (.one 20 (.take 21 (.take 22 .done))))))))))))))))))) 4 (.one 2 (.one 5 (.one 6 (.take 7 (.take 8 (.take 13 (.take 14 (.one 9 (.one 10 (.one 11 (.one 12 (.take 15 (.take 16 (.take 17 (.take 18 (.one 19 (.one 20 (.take 21 (.take 22 .done))))))))))))))))))))) 3 (.two 1 (.two 2 (.one 4 (.one 5 (.one 6 (.take 7 (.take 8 (.take 13 (.take 14 (.one 9 (.one 10 (.one 11 (.one 12 (.take 15 (.take 16 (.take 17 (.take 18 (.one 19 (.one 20 (.take 21 (.take 22 .done))))))))))))))))))) 4 (.one 2 (.one 5 (.one 6 (.take 7 (.take 8 (.take 13 (.take 14 (.one 9 (.one 10 (.one 11 (.one 12 (.take 15 (.take 16 (.take 17 (.take 18 (.one 19 (.one 20 (.take 21 (.take 22 .done)))))))))))))))))))) 4 (.one 1 (.one 2 (.one 5 (.one 6 (.take 7 (.take 8 (.take 13 (.take 14 (.one 9 (.one 10 (.one 11 (.one 12 (.take 15 (.take 16 (.take 17 (.take 18 (.one 19 (.one 20 (.take 21 (.take 22 .done)))))))))))))))))))))) 3 (.two 0 (.two 1 (.two 2 (.one 4 (.one 5 (.one 6 (.take 7 (.take 8 (.take 13 (.take 14 (.one 9 (.one 10 (.one 11 (.one 12 (.take 15 (.take 16 (.take 17 (.take 18 (.one 19 (.one 20 (.take 21 (.take 22 .done))))))))))))))))))) 4 (.one 2 (.one 5 (.one 6 (.take 7 (.take 8 (.take 13 (.take 14 (.one 9 (.one 10 (.one 11 (.one 12 (.take 15 (.take 16 (.take 17 (.take 18 (.one 19 (.one 20 (.take 21 (.take 22 .done)))))))))))))))))))) 4 (.one 1 (.one 2 (.one 5 (.one 6 (.take 7 (.take 8 (.take 13 (.take 14 (.one 9 (.one 10 (.one 11 (.one 12 (.take 15 (.take 16 (.take 17 (.take 18 (.one 19 (.one 20 (.take 21 (.take 22 .done))))))))))))))))))))) 4 (.one 0 (.one 1 (.one 2 (.one 5 (.one 6 (.take 7 (.take 8 (.take 13 (.take 14 (.one 9 (.one 10 (.one 11 (.one 12 (.take 15 (.take 16 (.take 17 (.take 18 (.one 19 (.one 20 (.take 21 (.take 22 .done))))))))))))))))))))))) (by kernel_rfl) (by kernel_rfl) (cv_of HRa.out) ?_
  generalize w5.drew = W0 at *
  have HW : Hid (Below W0.heap.size W0 W0) := Below.refl _ _
  refine Sch.tree_two ?_ ?_
  ·
    refine Sch.tree_e rfl rfl (fun K hK => ?_)
    go_wp2_with fail
    have HAa : Hid (Blk (W0.alloc (.cells #[.int .u8 49, .int .u8 50, .int .u8 51, .int .u8 52, .int .u8 53] 5)) W0.heap.size #[.int .u8 49, .int .u8 50, .int .u8 51, .int .u8 52, .int .u8 53]) := Blk.new W0 #[.int .u8 49, .int .u8 50, .int .u8 51, .int .u8 52, .int .u8 53]
    have hloAa : W0.heap.size ≤ W0.heap.size := HW.out.size
    replace HW := bel_a (.cells #[.int .u8 49, .int .u8 50, .int .u8 51, .int .u8 52, .int .u8 53] 5) HW
    refine hK _ _ (cv_of (HRa.out.keep HW.out)) ?_
    clear hK K
    generalize W0.alloc (.cells #[.int .u8 49, .int .u8 50, .int .u8 51, .int .u8 52, .int .u8 53] 5) = W1 at *
    refine Sch.tree_two ?_ ?_
    ·
      have hmk : (convert 23 23 (.slice (some ⟨W0.heap.size, 0, none⟩) 5 5)).run Tryd.prog W1 = .ok (.slice (some ⟨W0.heap.size, 0, none⟩) 5 5) (mkd W1 W0.heap.size 5) := mark_run W1 W0.heap.size #[.int .u8 49, .int .u8 50, .int .u8 51, .int .u8 52, .int .u8 53] HAa.out 5 5
      refine Sch.tree_e rfl rfl (fun K hK => ?_)
      go_wp2_with fail
      replace HW := bel_mark HW hloAa 5
      replace HAa := Lib.hid (HAa.out.mark (W0.heap.size) 5)
      refine hK _ _ (cv_of (HRa.out.keep HW.out)) ?_
      clear hK K hmk
      generalize mkd W1 W0.heap.size 5 = W2 at *
      refine Sch.tree_two ?_ ?_
      ·
        refine Sch.tree_e rfl rfl (fun K hK => ?_)
        go_wp2_with fail
        refine (HS5.out _ _ W2 (HL.out.below (bel_two HB HW).out) (HAa.out.row rfl)).mono ?_
        rintro e w' ⟨rfl, rfl⟩
        go_wp2_with fail
        refine hK _ _ (cv_of (HRa.out.keep HW.out)) ?_
        clear hK K
        refine Sch.tree_e rfl rfl (fun K hK => ?_)
        go_wp2_with fail
        have HBb : Hid (Blk (W2.alloc (.cells #[.int .u8 54, .int .u8 55, .int .u8 56, .int .u8 57] 5)) W2.heap.size #[.int .u8 54, .int .u8 55, .int .u8 56, .int .u8 57]) := Blk.new W2 #[.int .u8 54, .int .u8 55, .int .u8 56, .int .u8 57]
        have hloBb : W0.heap.size ≤ W2.heap.size := HW.out.size
        replace HAa := Lib.hid (HAa.out.al (.cells #[.int .u8 54, .int .u8 55, .int .u8 56, .int .u8 57] 5))
        replace HW := bel_a (.cells #[.int .u8 54, .int .u8 55, .int .u8 56, .int .u8 57] 5) HW
        refine hK _ _ (cv_of (HRa.out.keep HW.out)) ?_
        clear hK K
        generalize W2.alloc (.cells #[.int .u8 54, .int .u8 55, .int .u8 56, .int .u8 57] 5) = W3 at *
        have hmk : (convert 23 23 (.slice (some ⟨W2.heap.size, 0, none⟩) 4 4)).run Tryd.prog W3 = .ok (.slice (some ⟨W2.heap.size, 0, none⟩) 4 4) (mkd W3 W2.heap.size 4) := mark_run W3 W2.heap.size #[.int .u8 54, .int .u8 55, .int .u8 56, .int .u8 57] HBb.out 4 4
        refine Sch.tree_e rfl rfl (fun K hK => ?_)
        go_wp2_with fail
        replace HW := bel_mark HW hloBb 4
        replace HBb := Lib.hid (HBb.out.mark (W2.heap.size) 4)
        replace HAa := Lib.hid (HAa.out.mark (W2.heap.size) 4)
        refine hK _ _ (cv_of (HRa.out.keep HW.out)) ?_
        clear hK K hmk
        generalize mkd W3 W2.heap.size 4 = W4 at *
        refine Sch.tree_e rfl rfl (fun K hK => ?_)
        go_wp2_with fail
        refine (HU.out _ _ W4 (HL.out.below (bel_two HB HW).out) (HBb.out.row rfl)).mono ?_
        rintro e w' ⟨rfl, rfl⟩
        go_wp2_with fail
        refine hK _ _ (cv_of (HRa.out.keep HW.out)) ?_
        clear hK K
        refine Sch.tree_e rfl rfl (fun K hK => ?_)
        go_wp2_with fail
        refine (HT9.out W4 (HL.out.below (bel_two HB HW).out)).mono ?_
        rintro e W5 ⟨rfl, hb⟩
        replace HW := bel_tr HW hb
        clear hb HAa HBb
        go_wp2_with fail
        refine hK _ _ (cv_of (HRa.out.keep HW.out)) ?_
        clear hK K
        repeat (first | (refine Sch.tree_q rfl rfl (fun K hK => ?_); go_big_quiet_op; (first | refine hK _ ?_ | refine ⟨_, fun _ _ => rfl, hK _ ?_⟩); clear hK K) | (refine Sch.tree_s _ rfl rfl rfl ?_; simp only [Act.put, List.setIfInBounds_toArray, List.set_cons_zero, List.set_cons_succ]))
        refine Sch.tree_conv _ _ _ _ _ rfl rfl rfl (fun w h => h) rfl ?_
        simp only [Act.put, List.setIfInBounds_toArray, List.set_cons_zero, List.set_cons_succ]
        refine Sch.tree_e rfl rfl (fun K hK => ?_)
        go_wp2_with fail
        have HC1 : Hid (Blk (W5.alloc (.cells #[.int .u8 97] 5)) W5.heap.size #[.int .u8 97]) := Blk.new W5 #[.int .u8 97]
        have hloC1 : W0.heap.size ≤ W5.heap.size := HW.out.size
        replace HW := bel_a (.cells #[.int .u8 97] 5) HW
        refine hK _ _ (cv_of (HRa.out.keep HW.out)) ?_
        clear hK K
        generalize W5.alloc (.cells #[.int .u8 97] 5) = W6 at *
        have hmk : (convert 23 23 (.slice (some ⟨W5.heap.size, 0, none⟩) 1 1)).run Tryd.prog W6 = .ok (.slice (some ⟨W5.heap.size, 0, none⟩) 1 1) (mkd W6 W5.heap.size 1) := mark_run W6 W5.heap.size #[.int .u8 97] HC1.out 1 1
        refine Sch.tree_e rfl rfl (fun K hK => ?_)
        go_wp2_with fail
        replace HW := bel_mark HW hloC1 1
        replace HC1 := Lib.hid (HC1.out.mark (W5.heap.size) 1)
        refine hK _ _ (cv_of (HRa.out.keep HW.out)) ?_
        clear hK K hmk
        generalize mkd W6 W5.heap.size 1 = W7 at *
        refine Sch.tree_e rfl rfl (fun K hK => ?_)
        go_wp2_with fail
        refine (HA.out _ _ W7 (HL.out.below (bel_two HB HW).out) (HC1.out.row rfl) (fun h => by cases h)).mono ?_
        rintro e W8 ⟨v, rfl, ho, hb⟩
        obtain ⟨x, y, rfl, hrow1, -, -⟩ := ho.row
        have hcx : (convert 23 9 (.slice x 5 y)).run Tryd.prog W8 = .ok (.string ⟨#[97, 193, 208, 67, 48]⟩) W8 := G.conv_row (P := Tryd.prog) hrow1 5 rfl y 23 9 5 Tryd.underlying23 Tryd.underlying5 Tryd.underlying9
        have HX := Lib.hid hcx
        replace HW := bel_tr HW hb
        clear hb ho hrow1 HC1 hcx
        go_wp2_with fail
        refine hK _ _ (cv_of (HRa.out.keep HW.out)) ?_
        clear hK K
        have hcx := HX.out
        refine Sch.tree_e rfl rfl (fun K hK => ?_)
        go_wp2_with fail
        refine hK _ _ (cv_of (HRa.out.keep HW.out)) ?_
        clear hK K hcx HX
        repeat (first | (refine Sch.tree_q rfl rfl (fun K hK => ?_); go_big_quiet_op; (first | refine hK _ ?_ | refine ⟨_, fun _ _ => rfl, hK _ ?_⟩); clear hK K) | (refine Sch.tree_s _ rfl rfl rfl ?_; simp only [Act.put, List.setIfInBounds_toArray, List.set_cons_zero, List.set_cons_succ]))
        refine Sch.tree_e rfl rfl (fun K hK => ?_)
        go_wp2_with fail
        have HC2 : Hid (Blk (W8.alloc (.cells #[.int .u8 97] 5)) W8.heap.size #[.int .u8 97]) := Blk.new W8 #[.int .u8 97]
        have hloC2 : W0.heap.size ≤ W8.heap.size := HW.out.size
        replace HW := bel_a (.cells #[.int .u8 97] 5) HW
        refine hK _ _ (cv_of (HRa.out.keep HW.out)) ?_
        clear hK K
        generalize W8.alloc (.cells #[.int .u8 97] 5) = W9 at *
        refine Sch.tree_e rfl rfl (fun K hK => ?_)
        go_wp2_with fail
        refine (HO1.out _ _ _ _ W9 (HL.out.below (bel_two HB HW).out) (HRa.out.keep HW.out) (HC2.out.row rfl) (fun h => by cases h) (by simp)).mono ?_
        rintro e W10 ⟨rfl, hb⟩
        replace HW := bel_tr HW hb
        clear hb HC2
        go_wp2_with fail
        refine hK _ _ (cv_of (HRa.out.keep HW.out)) ?_
        clear hK K
        repeat (first | (refine Sch.tree_q rfl rfl (fun K hK => ?_); go_big_quiet_op; (first | refine hK _ ?_ | refine ⟨_, fun _ _ => rfl, hK _ ?_⟩); clear hK K) | (refine Sch.tree_s _ rfl rfl rfl ?_; simp only [Act.put, List.setIfInBounds_toArray, List.set_cons_zero, List.set_cons_succ]))
        refine Sch.tree_n ?_
        replace HB := bel_two HB HW
        clear HW HRa
        go_wp2_with fail
        go_meet
        case rel => exact ⟨rfl, HB⟩
      ·
        refine Sch.tree_e rfl rfl (fun K hK => ?_)
        go_wp2_with fail
        have HBb : Hid (Blk (W2.alloc (.cells #[.int .u8 54, .int .u8 55, .int .u8 56, .int .u8 57] 5)) W2.heap.size #[.int .u8 54, .int .u8 55, .int .u8 56, .int .u8 57]) := Blk.new W2 #[.int .u8 54, .int .u8 55, .int .u8 56, .int .u8 57]
        have hloBb : W0.heap.size ≤ W2.heap.size := HW.out.size
        replace HAa := Lib.hid (HAa.out.al (.cells #[.int .u8 54, .int .u8 55, .int .u8 56, .int .u8 57] 5))
        replace HW := bel_a (.cells #[.int .u8 54, .int .u8 55, .int .u8 56, .int .u8 57] 5) HW
        refine hK _ _ (cv_of (HRa.out.keep HW.out)) ?_
        clear hK K
        generalize W2.alloc (.cells #[.int .u8 54, .int .u8 55, .int .u8 56, .int .u8 57] 5) = W3 at *
        refine Sch.tree_two ?_ ?_
        ·
          refine Sch.tree_e rfl rfl (fun K hK => ?_)
          go_wp2_with fail
          refine (HS5.out _ _ W3 (HL.out.below (bel_two HB HW).out) (HAa.out.row rfl)).mono ?_
          rintro e w' ⟨rfl, rfl⟩
          go_wp2_with fail
          refine hK _ _ (cv_of (HRa.out.keep HW.out)) ?_
          clear hK K
          have hmk : (convert 23 23 (.slice (some ⟨W2.heap.size, 0, none⟩) 4 4)).run Tryd.prog W3 = .ok (.slice (some ⟨W2.heap.size, 0, none⟩) 4 4) (mkd W3 W2.heap.size 4) := mark_run W3 W2.heap.size #[.int .u8 54, .int .u8 55, .int .u8 56, .int .u8 57] HBb.out 4 4
          refine Sch.tree_e rfl rfl (fun K hK => ?_)
          go_wp2_with fail
          replace HW := bel_mark HW hloBb 4
          replace HBb := Lib.hid (HBb.out.mark (W2.heap.size) 4)
          replace HAa := Lib.hid (HAa.out.mark (W2.heap.size) 4)
          refine hK _ _ (cv_of (HRa.out.keep HW.out)) ?_
          clear hK K hmk
          generalize mkd W3 W2.heap.size 4 = W4 at *
          refine Sch.tree_e rfl rfl (fun K hK => ?_)
          go_wp2_with fail
          refine (HU.out _ _ W4 (HL.out.below (bel_two HB HW).out) (HBb.out.row rfl)).mono ?_
          rintro e w' ⟨rfl, rfl⟩
          go_wp2_with fail
          refine hK _ _ (cv_of (HRa.out.keep HW.out)) ?_
          clear hK K
          refine Sch.tree_e rfl rfl (fun K hK => ?_)
          go_wp2_with fail
          refine (HT9.out W4 (HL.out.below (bel_two HB HW).out)).mono ?_
          rintro e W5 ⟨rfl, hb⟩
          replace HW := bel_tr HW hb
          clear hb HAa HBb
          go_wp2_with fail
          refine hK _ _ (cv_of (HRa.out.keep HW.out)) ?_
          clear hK K
          repeat (first | (refine Sch.tree_q rfl rfl (fun K hK => ?_); go_big_quiet_op; (first | refine hK _ ?_ | refine ⟨_, fun _ _ => rfl, hK _ ?_⟩); clear hK K) | (refine Sch.tree_s _ rfl rfl rfl ?_; simp only [Act.put, List.setIfInBounds_toArray, List.set_cons_zero, List.set_cons_succ]))
          refine Sch.tree_conv _ _ _ _ _ rfl rfl rfl (fun w h => h) rfl ?_
          simp only [Act.put, List.setIfInBounds_toArray, List.set_cons_zero, List.set_cons_succ]
          refine Sch.tree_e rfl rfl (fun K hK => ?_)
          go_wp2_with fail
          have HC1 : Hid (Blk (W5.alloc (.cells #[.int .u8 97] 5)) W5.heap.size #[.int .u8 97]) := Blk.new W5 #[.int .u8 97]
          have hloC1 : W0.heap.size ≤ W5.heap.size := HW.out.size
          replace HW := bel_a (.cells #[.int .u8 97] 5) HW
          refine hK _ _ (cv_of (HRa.out.keep HW.out)) ?_
          clear hK K
          generalize W5.alloc (.cells #[.int .u8 97] 5) = W6 at *
          have hmk : (convert 23 23 (.slice (some ⟨W5.heap.size, 0, none⟩) 1 1)).run Tryd.prog W6 = .ok (.slice (some ⟨W5.heap.size, 0, none⟩) 1 1) (mkd W6 W5.heap.size 1) := mark_run W6 W5.heap.size #[.int .u8 97] HC1.out 1 1
          refine Sch.tree_e rfl rfl (fun K hK => ?_)
          go_wp2_with fail
          replace HW := bel_mark HW hloC1 1
          replace HC1 := Lib.hid (HC1.out.mark (W5.heap.size) 1)
          refine hK _ _ (cv_of (HRa.out.keep HW.out)) ?_
          clear hK K hmk
          generalize mkd W6 W5.heap.size 1 = W7 at *
          refine Sch.tree_e rfl rfl (fun K hK => ?_)
          go_wp2_with fail
          refine (HA.out _ _ W7 (HL.out.below (bel_two HB HW).out) (HC1.out.row rfl) (fun h => by cases h)).mono ?_
          rintro e W8 ⟨v, rfl, ho, hb⟩
          obtain ⟨x, y, rfl, hrow1, -, -⟩ := ho.row
          have hcx : (convert 23 9 (.slice x 5 y)).run Tryd.prog W8 = .ok (.string ⟨#[97, 193, 208, 67, 48]⟩) W8 := G.conv_row (P := Tryd.prog) hrow1 5 rfl y 23 9 5 Tryd.underlying23 Tryd.underlying5 Tryd.underlying9
          have HX := Lib.hid hcx
          replace HW := bel_tr HW hb
          clear hb ho hrow1 HC1 hcx
          go_wp2_with fail
          refine hK _ _ (cv_of (HRa.out.keep HW.out)) ?_
          clear hK K
          have hcx := HX.out
          refine Sch.tree_e rfl rfl (fun K hK => ?_)
          go_wp2_with fail
          refine hK _ _ (cv_of (HRa.out.keep HW.out)) ?_
          clear hK K hcx HX
          repeat (first | (refine Sch.tree_q rfl rfl (fun K hK => ?_); go_big_quiet_op; (first | refine hK _ ?_ | refine ⟨_, fun _ _ => rfl, hK _ ?_⟩); clear hK K) | (refine Sch.tree_s _ rfl rfl rfl ?_; simp only [Act.put, List.setIfInBounds_toArray, List.set_cons_zero, List.set_cons_succ]))
          refine Sch.tree_e rfl rfl (fun K hK => ?_)
          go_wp2_with fail
          have HC2 : Hid (Blk (W8.alloc (.cells #[.int .u8 97] 5)) W8.heap.size #[.int .u8 97]) := Blk.new W8 #[.int .u8 97]
          have hloC2 : W0.heap.size ≤ W8.heap.size := HW.out.size
          replace HW := bel_a (.cells #[.int .u8 97] 5) HW
          refine hK _ _ (cv_of (HRa.out.keep HW.out)) ?_
          clear hK K
          generalize W8.alloc (.cells #[.int .u8 97] 5) = W9 at *
          refine Sch.tree_e rfl rfl (fun K hK => ?_)
          go_wp2_with fail
          refine (HO1.out _ _ _ _ W9 (HL.out.below (bel_two HB HW).out) (HRa.out.keep HW.out) (HC2.out.row rfl) (fun h => by cases h) (by simp)).mono ?_
          rintro e W10 ⟨rfl, hb⟩
          replace HW := bel_tr HW hb
          clear hb HC2
          go_wp2_with fail
          refine hK _ _ (cv_of (HRa.out.keep HW.out)) ?_
          clear hK K
          repeat (first | (refine Sch.tree_q rfl rfl (fun K hK => ?_); go_big_quiet_op; (first | refine hK _ ?_ | refine ⟨_, fun _ _ => rfl, hK _ ?_⟩); clear hK K) | (refine Sch.tree_s _ rfl rfl rfl ?_; simp only [Act.put, List.setIfInBounds_toArray, List.set_cons_zero, List.set_cons_succ]))
          refine Sch.tree_n ?_
          replace HB := bel_two HB HW
          clear HW HRa
          go_wp2_with fail
          go_meet
          case rel => exact ⟨rfl, HB⟩
        ·
          have hmk : (convert 23 23 (.slice (some ⟨W2.heap.size, 0, none⟩) 4 4)).run Tryd.prog W3 = .ok (.slice (some ⟨W2.heap.size, 0, none⟩) 4 4) (mkd W3 W2.heap.size 4) := mark_run W3 W2.heap.size #[.int .u8 54, .int .u8 55, .int .u8 56, .int .u8 57] HBb.out 4 4
          refine Sch.tree_e rfl rfl (fun K hK => ?_)
          go_wp2_with fail
          replace HW := bel_mark HW hloBb 4
          replace HBb := Lib.hid (HBb.out.mark (W2.heap.size) 4)
          replace HAa := Lib.hid (HAa.out.mark (W2.heap.size) 4)
          refine hK _ _ (cv_of (HRa.out.keep HW.out)) ?_
          clear hK K hmk
          generalize mkd W3 W2.heap.size 4 = W4 at *
          refine Sch.tree_e rfl rfl (fun K hK => ?_)
          go_wp2_with fail
          refine (HS5.out _ _ W4 (HL.out.below (bel_two HB HW).out) (HAa.out.row rfl)).mono ?_
          rintro e w' ⟨rfl, rfl⟩
          go_wp2_with fail
          refine hK _ _ (cv_of (HRa.out.keep HW.out)) ?_
          clear hK K
          refine Sch.tree_e rfl rfl (fun K hK => ?_)
          go_wp2_with fail
          refine (HU.out _ _ W4 (HL.out.below (bel_two HB HW).out) (HBb.out.row rfl)).mono ?_
          rintro e w' ⟨rfl, rfl⟩
          go_wp2_with fail
          refine hK _ _ (cv_of (HRa.out.keep HW.out)) ?_
          clear hK K
          refine Sch.tree_e rfl rfl (fun K hK => ?_)
          go_wp2_with fail
          refine (HT9.out W4 (HL.out.below (bel_two HB HW).out)).mono ?_
          rintro e W5 ⟨rfl, hb⟩
          replace HW := bel_tr HW hb
          clear hb HAa HBb
          go_wp2_with fail
          refine hK _ _ (cv_of (HRa.out.keep HW.out)) ?_
          clear hK K
          repeat (first | (refine Sch.tree_q rfl rfl (fun K hK => ?_); go_big_quiet_op; (first | refine hK _ ?_ | refine ⟨_, fun _ _ => rfl, hK _ ?_⟩); clear hK K) | (refine Sch.tree_s _ rfl rfl rfl ?_; simp only [Act.put, List.setIfInBounds_toArray, List.set_cons_zero, List.set_cons_succ]))
          refine Sch.tree_conv _ _ _ _ _ rfl rfl rfl (fun w h => h) rfl ?_
          simp only [Act.put, List.setIfInBounds_toArray, List.set_cons_zero, List.set_cons_succ]
          refine Sch.tree_e rfl rfl (fun K hK => ?_)
          go_wp2_with fail
          have HC1 : Hid (Blk (W5.alloc (.cells #[.int .u8 97] 5)) W5.heap.size #[.int .u8 97]) := Blk.new W5 #[.int .u8 97]
          have hloC1 : W0.heap.size ≤ W5.heap.size := HW.out.size
          replace HW := bel_a (.cells #[.int .u8 97] 5) HW
          refine hK _ _ (cv_of (HRa.out.keep HW.out)) ?_
          clear hK K
          generalize W5.alloc (.cells #[.int .u8 97] 5) = W6 at *
          have hmk : (convert 23 23 (.slice (some ⟨W5.heap.size, 0, none⟩) 1 1)).run Tryd.prog W6 = .ok (.slice (some ⟨W5.heap.size, 0, none⟩) 1 1) (mkd W6 W5.heap.size 1) := mark_run W6 W5.heap.size #[.int .u8 97] HC1.out 1 1
          refine Sch.tree_e rfl rfl (fun K hK => ?_)
          go_wp2_with fail
          replace HW := bel_mark HW hloC1 1
          replace HC1 := Lib.hid (HC1.out.mark (W5.heap.size) 1)
          refine hK _ _ (cv_of (HRa.out.keep HW.out)) ?_
          clear hK K hmk
          generalize mkd W6 W5.heap.size 1 = W7 at *
          refine Sch.tree_e rfl rfl (fun K hK => ?_)
          go_wp2_with fail
          refine (HA.out _ _ W7 (HL.out.below (bel_two HB HW).out) (HC1.out.row rfl) (fun h => by cases h)).mono ?_
          rintro e W8 ⟨v, rfl, ho, hb⟩
          obtain ⟨x, y, rfl, hrow1, -, -⟩ := ho.row
          have hcx : (convert 23 9 (.slice x 5 y)).run Tryd.prog W8 = .ok (.string ⟨#[97, 193, 208, 67, 48]⟩) W8 := G.conv_row (P := Tryd.prog) hrow1 5 rfl y 23 9 5 Tryd.underlying23 Tryd.underlying5 Tryd.underlying9
          have HX := Lib.hid hcx
          replace HW := bel_tr HW hb
          clear hb ho hrow1 HC1 hcx
          go_wp2_with fail
          refine hK _ _ (cv_of (HRa.out.keep HW.out)) ?_
          clear hK K
          have hcx := HX.out
          refine Sch.tree_e rfl rfl (fun K hK => ?_)
          go_wp2_with fail
          refine hK _ _ (cv_of (HRa.out.keep HW.out)) ?_
          clear hK K hcx HX
          repeat (first | (refine Sch.tree_q rfl rfl (fun K hK => ?_); go_big_quiet_op; (first | refine hK _ ?_ | refine ⟨_, fun _ _ => rfl, hK _ ?_⟩); clear hK K) | (refine Sch.tree_s _ rfl rfl rfl ?_; simp only [Act.put, List.setIfInBounds_toArray, List.set_cons_zero, List.set_cons_succ]))
          refine Sch.tree_e rfl rfl (fun K hK => ?_)
          go_wp2_with fail
          have HC2 : Hid (Blk (W8.alloc (.cells #[.int .u8 97] 5)) W8.heap.size #[.int .u8 97]) := Blk.new W8 #[.int .u8 97]
          have hloC2 : W0.heap.size ≤ W8.heap.size := HW.out.size
          replace HW := bel_a (.cells #[.int .u8 97] 5) HW
          refine hK _ _ (cv_of (HRa.out.keep HW.out)) ?_
          clear hK K
          generalize W8.alloc (.cells #[.int .u8 97] 5) = W9 at *
          refine Sch.tree_e rfl rfl (fun K hK => ?_)
          go_wp2_with fail
          refine (HO1.out _ _ _ _ W9 (HL.out.below (bel_two HB HW).out) (HRa.out.keep HW.out) (HC2.out.row rfl) (fun h => by cases h) (by simp)).mono ?_
          rintro e W10 ⟨rfl, hb⟩
          replace HW := bel_tr HW hb
          clear hb HC2
          go_wp2_with fail
          refine hK _ _ (cv_of (HRa.out.keep HW.out)) ?_
          clear hK K
          repeat (first | (refine Sch.tree_q rfl rfl (fun K hK => ?_); go_big_quiet_op; (first | refine hK _ ?_ | refine ⟨_, fun _ _ => rfl, hK _ ?_⟩); clear hK K) | (refine Sch.tree_s _ rfl rfl rfl ?_; simp only [Act.put, List.setIfInBounds_toArray, List.set_cons_zero, List.set_cons_succ]))
          refine Sch.tree_n ?_
          replace HB := bel_two HB HW
          clear HW HRa
          go_wp2_with fail
          go_meet
          case rel => exact ⟨rfl, HB⟩
    ·
      refine Sch.tree_e rfl rfl (fun K hK => ?_)
      go_wp2_with fail
      have HBb : Hid (Blk (W1.alloc (.cells #[.int .u8 54, .int .u8 55, .int .u8 56, .int .u8 57] 5)) W1.heap.size #[.int .u8 54, .int .u8 55, .int .u8 56, .int .u8 57]) := Blk.new W1 #[.int .u8 54, .int .u8 55, .int .u8 56, .int .u8 57]
      have hloBb : W0.heap.size ≤ W1.heap.size := HW.out.size
      replace HAa := Lib.hid (HAa.out.al (.cells #[.int .u8 54, .int .u8 55, .int .u8 56, .int .u8 57] 5))
      replace HW := bel_a (.cells #[.int .u8 54, .int .u8 55, .int .u8 56, .int .u8 57] 5) HW
      refine hK _ _ (cv_of (HRa.out.keep HW.out)) ?_
      clear hK K
      generalize W1.alloc (.cells #[.int .u8 54, .int .u8 55, .int .u8 56, .int .u8 57] 5) = W2 at *
      refine Sch.tree_two ?_ ?_
      ·
        have hmk : (convert 23 23 (.slice (some ⟨W0.heap.size, 0, none⟩) 5 5)).run Tryd.prog W2 = .ok (.slice (some ⟨W0.heap.size, 0, none⟩) 5 5) (mkd W2 W0.heap.size 5) := mark_run W2 W0.heap.size #[.int .u8 49, .int .u8 50, .int .u8 51, .int .u8 52, .int .u8 53] HAa.out 5 5
        refine Sch.tree_e rfl rfl (fun K hK => ?_)
        go_wp2_with fail
        replace HW := bel_mark HW hloAa 5
        replace HAa := Lib.hid (HAa.out.mark (W0.heap.size) 5)
        replace HBb := Lib.hid (HBb.out.mark (W0.heap.size) 5)
        refine hK _ _ (cv_of (HRa.out.keep HW.out)) ?_
        clear hK K hmk
        generalize mkd W2 W0.heap.size 5 = W3 at *
        refine Sch.tree_two ?_ ?_
        ·
          refine Sch.tree_e rfl rfl (fun K hK => ?_)
          go_wp2_with fail
          refine (HS5.out _ _ W3 (HL.out.below (bel_two HB HW).out) (HAa.out.row rfl)).mono ?_
          rintro e w' ⟨rfl, rfl⟩
          go_wp2_with fail
          refine hK _ _ (cv_of (HRa.out.keep HW.out)) ?_
          clear hK K
          have hmk : (convert 23 23 (.slice (some ⟨W1.heap.size, 0, none⟩) 4 4)).run Tryd.prog W3 = .ok (.slice (some ⟨W1.heap.size, 0, none⟩) 4 4) (mkd W3 W1.heap.size 4) := mark_run W3 W1.heap.size #[.int .u8 54, .int .u8 55, .int .u8 56, .int .u8 57] HBb.out 4 4
          refine Sch.tree_e rfl rfl (fun K hK => ?_)
          go_wp2_with fail
          replace HW := bel_mark HW hloBb 4
          replace HBb := Lib.hid (HBb.out.mark (W1.heap.size) 4)
          replace HAa := Lib.hid (HAa.out.mark (W1.heap.size) 4)
          refine hK _ _ (cv_of (HRa.out.keep HW.out)) ?_
          clear hK K hmk
          generalize mkd W3 W1.heap.size 4 = W4 at *
          refine Sch.tree_e rfl rfl (fun K hK => ?_)
          go_wp2_with fail
          refine (HU.out _ _ W4 (HL.out.below (bel_two HB HW).out) (HBb.out.row rfl)).mono ?_
          rintro e w' ⟨rfl, rfl⟩
          go_wp2_with fail
          refine hK _ _ (cv_of (HRa.out.keep HW.out)) ?_
          clear hK K
          refine Sch.tree_e rfl rfl (fun K hK => ?_)
          go_wp2_with fail
          refine (HT9.out W4 (HL.out.below (bel_two HB HW).out)).mono ?_
          rintro e W5 ⟨rfl, hb⟩
          replace HW := bel_tr HW hb
          clear hb HAa HBb
          go_wp2_with fail
          refine hK _ _ (cv_of (HRa.out.keep HW.out)) ?_
          clear hK K
          repeat (first | (refine Sch.tree_q rfl rfl (fun K hK => ?_); go_big_quiet_op; (first | refine hK _ ?_ | refine ⟨_, fun _ _ => rfl, hK _ ?_⟩); clear hK K) | (refine Sch.tree_s _ rfl rfl rfl ?_; simp only [Act.put, List.setIfInBounds_toArray, List.set_cons_zero, List.set_cons_succ]))
          refine Sch.tree_conv _ _ _ _ _ rfl rfl rfl (fun w h => h) rfl ?_
          simp only [Act.put, List.setIfInBounds_toArray, List.set_cons_zero, List.set_cons_succ]
          refine Sch.tree_e rfl rfl (fun K hK => ?_)
          go_wp2_with fail
          have HC1 : Hid (Blk (W5.alloc (.cells #[.int .u8 97] 5)) W5.heap.size #[.int .u8 97]) := Blk.new W5 #[.int .u8 97]
          have hloC1 : W0.heap.size ≤ W5.heap.size := HW.out.size
          replace HW := bel_a (.cells #[.int .u8 97] 5) HW
          refine hK _ _ (cv_of (HRa.out.keep HW.out)) ?_
          clear hK K
          generalize W5.alloc (.cells #[.int .u8 97] 5) = W6 at *
          have hmk : (convert 23 23 (.slice (some ⟨W5.heap.size, 0, none⟩) 1 1)).run Tryd.prog W6 = .ok (.slice (some ⟨W5.heap.size, 0, none⟩) 1 1) (mkd W6 W5.heap.size 1) := mark_run W6 W5.heap.size #[.int .u8 97] HC1.out 1 1
          refine Sch.tree_e rfl rfl (fun K hK => ?_)
          go_wp2_with fail
          replace HW := bel_mark HW hloC1 1
          replace HC1 := Lib.hid (HC1.out.mark (W5.heap.size) 1)
          refine hK _ _ (cv_of (HRa.out.keep HW.out)) ?_
          clear hK K hmk
          generalize mkd W6 W5.heap.size 1 = W7 at *
          refine Sch.tree_e rfl rfl (fun K hK => ?_)
          go_wp2_with fail
          refine (HA.out _ _ W7 (HL.out.below (bel_two HB HW).out) (HC1.out.row rfl) (fun h => by cases h)).mono ?_
          rintro e W8 ⟨v, rfl, ho, hb⟩
          obtain ⟨x, y, rfl, hrow1, -, -⟩ := ho.row
          have hcx : (convert 23 9 (.slice x 5 y)).run Tryd.prog W8 = .ok (.string ⟨#[97, 193, 208, 67, 48]⟩) W8 := G.conv_row (P := Tryd.prog) hrow1 5 rfl y 23 9 5 Tryd.underlying23 Tryd.underlying5 Tryd.underlying9
          have HX := Lib.hid hcx
          replace HW := bel_tr HW hb
          clear hb ho hrow1 HC1 hcx
          go_wp2_with fail
          refine hK _ _ (cv_of (HRa.out.keep HW.out)) ?_
          clear hK K
          have hcx := HX.out
          refine Sch.tree_e rfl rfl (fun K hK => ?_)
          go_wp2_with fail
          refine hK _ _ (cv_of (HRa.out.keep HW.out)) ?_
          clear hK K hcx HX
          repeat (first | (refine Sch.tree_q rfl rfl (fun K hK => ?_); go_big_quiet_op; (first | refine hK _ ?_ | refine ⟨_, fun _ _ => rfl, hK _ ?_⟩); clear hK K) | (refine Sch.tree_s _ rfl rfl rfl ?_; simp only [Act.put, List.setIfInBounds_toArray, List.set_cons_zero, List.set_cons_succ]))
          refine Sch.tree_e rfl rfl (fun K hK => ?_)
          go_wp2_with fail
          have HC2 : Hid (Blk (W8.alloc (.cells #[.int .u8 97] 5)) W8.heap.size #[.int .u8 97]) := Blk.new W8 #[.int .u8 97]
          have hloC2 : W0.heap.size ≤ W8.heap.size := HW.out.size
          replace HW := bel_a (.cells #[.int .u8 97] 5) HW
          refine hK _ _ (cv_of (HRa.out.keep HW.out)) ?_
          clear hK K
          generalize W8.alloc (.cells #[.int .u8 97] 5) = W9 at *
          refine Sch.tree_e rfl rfl (fun K hK => ?_)
          go_wp2_with fail
          refine (HO1.out _ _ _ _ W9 (HL.out.below (bel_two HB HW).out) (HRa.out.keep HW.out) (HC2.out.row rfl) (fun h => by cases h) (by simp)).mono ?_
          rintro e W10 ⟨rfl, hb⟩
          replace HW := bel_tr HW hb
          clear hb HC2
          go_wp2_with fail
          refine hK _ _ (cv_of (HRa.out.keep HW.out)) ?_
          clear hK K
          repeat (first | (refine Sch.tree_q rfl rfl (fun K hK => ?_); go_big_quiet_op; (first | refine hK _ ?_ | refine ⟨_, fun _ _ => rfl, hK _ ?_⟩); clear hK K) | (refine Sch.tree_s _ rfl rfl rfl ?_; simp only [Act.put, List.setIfInBounds_toArray, List.set_cons_zero, List.set_cons_succ]))
          refine Sch.tree_n ?_
          replace HB := bel_two HB HW
          clear HW HRa
          go_wp2_with fail
          go_meet
          case rel => exact ⟨rfl, HB⟩
        ·
          have hmk : (convert 23 23 (.slice (some ⟨W1.heap.size, 0, none⟩) 4 4)).run Tryd.prog W3 = .ok (.slice (some ⟨W1.heap.size, 0, none⟩) 4 4) (mkd W3 W1.heap.size 4) := mark_run W3 W1.heap.size #[.int .u8 54, .int .u8 55, .int .u8 56, .int .u8 57] HBb.out 4 4
          refine Sch.tree_e rfl rfl (fun K hK => ?_)
          go_wp2_with fail
          replace HW := bel_mark HW hloBb 4
          replace HBb := Lib.hid (HBb.out.mark (W1.heap.size) 4)
          replace HAa := Lib.hid (HAa.out.mark (W1.heap.size) 4)
          refine hK _ _ (cv_of (HRa.out.keep HW.out)) ?_
          clear hK K hmk
          generalize mkd W3 W1.heap.size 4 = W4 at *
          refine Sch.tree_e rfl rfl (fun K hK => ?_)
          go_wp2_with fail
          refine (HS5.out _ _ W4 (HL.out.below (bel_two HB HW).out) (HAa.out.row rfl)).mono ?_
          rintro e w' ⟨rfl, rfl⟩
          go_wp2_with fail
          refine hK _ _ (cv_of (HRa.out.keep HW.out)) ?_
          clear hK K
          refine Sch.tree_e rfl rfl (fun K hK => ?_)
          go_wp2_with fail
          refine (HU.out _ _ W4 (HL.out.below (bel_two HB HW).out) (HBb.out.row rfl)).mono ?_
          rintro e w' ⟨rfl, rfl⟩
          go_wp2_with fail
          refine hK _ _ (cv_of (HRa.out.keep HW.out)) ?_
          clear hK K
          refine Sch.tree_e rfl rfl (fun K hK => ?_)
          go_wp2_with fail
          refine (HT9.out W4 (HL.out.below (bel_two HB HW).out)).mono ?_
          rintro e W5 ⟨rfl, hb⟩
          replace HW := bel_tr HW hb
          clear hb HAa HBb
          go_wp2_with fail
          refine hK _ _ (cv_of (HRa.out.keep HW.out)) ?_
          clear hK K
          repeat (first | (refine Sch.tree_q rfl rfl (fun K hK => ?_); go_big_quiet_op; (first | refine hK _ ?_ | refine ⟨_, fun _ _ => rfl, hK _ ?_⟩); clear hK K) | (refine Sch.tree_s _ rfl rfl rfl ?_; simp only [Act.put, List.setIfInBounds_toArray, List.set_cons_zero, List.set_cons_succ]))
          refine Sch.tree_conv _ _ _ _ _ rfl rfl rfl (fun w h => h) rfl ?_
          simp only [Act.put, List.setIfInBounds_toArray, List.set_cons_zero, List.set_cons_succ]
          refine Sch.tree_e rfl rfl (fun K hK => ?_)
          go_wp2_with fail
          have HC1 : Hid (Blk (W5.alloc (.cells #[.int .u8 97] 5)) W5.heap.size #[.int .u8 97]) := Blk.new W5 #[.int .u8 97]
          have hloC1 : W0.heap.size ≤ W5.heap.size := HW.out.size
          replace HW := bel_a (.cells #[.int .u8 97] 5) HW
          refine hK _ _ (cv_of (HRa.out.keep HW.out)) ?_
          clear hK K
          generalize W5.alloc (.cells #[.int .u8 97] 5) = W6 at *
          have hmk : (convert 23 23 (.slice (some ⟨W5.heap.size, 0, none⟩) 1 1)).run Tryd.prog W6 = .ok (.slice (some ⟨W5.heap.size, 0, none⟩) 1 1) (mkd W6 W5.heap.size 1) := mark_run W6 W5.heap.size #[.int .u8 97] HC1.out 1 1
          refine Sch.tree_e rfl rfl (fun K hK => ?_)
          go_wp2_with fail
          replace HW := bel_mark HW hloC1 1
          replace HC1 := Lib.hid (HC1.out.mark (W5.heap.size) 1)
          refine hK _ _ (cv_of (HRa.out.keep HW.out)) ?_
          clear hK K hmk
          generalize mkd W6 W5.heap.size 1 = W7 at *
          refine Sch.tree_e rfl rfl (fun K hK => ?_)
          go_wp2_with fail
          refine (HA.out _ _ W7 (HL.out.below (bel_two HB HW).out) (HC1.out.row rfl) (fun h => by cases h)).mono ?_
          rintro e W8 ⟨v, rfl, ho, hb⟩
          obtain ⟨x, y, rfl, hrow1, -, -⟩ := ho.row
          have hcx : (convert 23 9 (.slice x 5 y)).run Tryd.prog W8 = .ok (.string ⟨#[97, 193, 208, 67, 48]⟩) W8 := G.conv_row (P := Tryd.prog) hrow1 5 rfl y 23 9 5 Tryd.underlying23 Tryd.underlying5 Tryd.underlying9
          have HX := Lib.hid hcx
          replace HW := bel_tr HW hb
          clear hb ho hrow1 HC1 hcx
          go_wp2_with fail
          refine hK _ _ (cv_of (HRa.out.keep HW.out)) ?_
          clear hK K
          have hcx := HX.out
          refine Sch.tree_e rfl rfl (fun K hK => ?_)
          go_wp2_with fail
          refine hK _ _ (cv_of (HRa.out.keep HW.out)) ?_
          clear hK K hcx HX
          repeat (first | (refine Sch.tree_q rfl rfl (fun K hK => ?_); go_big_quiet_op; (first | refine hK _ ?_ | refine ⟨_, fun _ _ => rfl, hK _ ?_⟩); clear hK K) | (refine Sch.tree_s _ rfl rfl rfl ?_; simp only [Act.put, List.setIfInBounds_toArray, List.set_cons_zero, List.set_cons_succ]))
          refine Sch.tree_e rfl rfl (fun K hK => ?_)
          go_wp2_with fail
          have HC2 : Hid (Blk (W8.alloc (.cells #[.int .u8 97] 5)) W8.heap.size #[.int .u8 97]) := Blk.new W8 #[.int .u8 97]
          have hloC2 : W0.heap.size ≤ W8.heap.size := HW.out.size
          replace HW := bel_a (.cells #[.int .u8 97] 5) HW
          refine hK _ _ (cv_of (HRa.out.keep HW.out)) ?_
          clear hK K
          generalize W8.alloc (.cells #[.int .u8 97] 5) = W9 at *
          refine Sch.tree_e rfl rfl (fun K hK => ?_)
          go_wp2_with fail
          refine (HO1.out _ _ _ _ W9 (HL.out.below (bel_two HB HW).out) (HRa.out.keep HW.out) (HC2.out.row rfl) (fun h => by cases h) (by simp)).mono ?_
          rintro e W10 ⟨rfl, hb⟩
          replace HW := bel_tr HW hb
          clear hb HC2
          go_wp2_with fail
          refine hK _ _ (cv_of (HRa.out.keep HW.out)) ?_
          clear hK K
          repeat (first | (refine Sch.tree_q rfl rfl (fun K hK => ?_); go_big_quiet_op; (first | refine hK _ ?_ | refine ⟨_, fun _ _ => rfl, hK _ ?_⟩); clear hK K) | (refine Sch.tree_s _ rfl rfl rfl ?_; simp only [Act.put, List.setIfInBounds_toArray, List.set_cons_zero, List.set_cons_succ]))
          refine Sch.tree_n ?_
          replace HB := bel_two HB HW
          clear HW HRa
          go_wp2_with fail
          go_meet
          case rel => exact ⟨rfl, HB⟩
      ·
        have hmk : (convert 23 23 (.slice (some ⟨W1.heap.size, 0, none⟩) 4 4)).run Tryd.prog W2 = .ok (.slice (some ⟨W1.heap.size, 0, none⟩) 4 4) (mkd W2 W1.heap.size 4) := mark_run W2 W1.heap.size #[.int .u8 54, .int .u8 55, .int .u8 56, .int .u8 57] HBb.out 4 4
        refine Sch.tree_e rfl rfl (fun K hK => ?_)
        go_wp2_with fail
        replace HW := bel_mark HW hloBb 4
        replace HBb := Lib.hid (HBb.out.mark (W1.heap.size) 4)
        replace HAa := Lib.hid (HAa.out.mark (W1.heap.size) 4)
        refine hK _ _ (cv_of (HRa.out.keep HW.out)) ?_
        clear hK K hmk
        generalize mkd W2 W1.heap.size 4 = W3 at *
        have hmk : (convert 23 23 (.slice (some ⟨W0.heap.size, 0, none⟩) 5 5)).run Tryd.prog W3 = .ok (.slice (some ⟨W0.heap.size, 0, none⟩) 5 5) (mkd W3 W0.heap.size 5) := mark_run W3 W0.heap.size #[.int .u8 49, .int .u8 50, .int .u8 51, .int .u8 52, .int .u8 53] HAa.out 5 5
        refine Sch.tree_e rfl rfl (fun K hK => ?_)
        go_wp2_with fail
        replace HW := bel_mark HW hloAa 5
        replace HAa := Lib.hid (HAa.out.mark (W0.heap.size) 5)
        replace HBb := Lib.hid (HBb.out.mark (W0.heap.size) 5)
        refine hK _ _ (cv_of (HRa.out.keep HW.out)) ?_
        clear hK K hmk
        generalize mkd W3 W0.heap.size 5 = W4 at *
        refine Sch.tree_e rfl rfl (fun K hK => ?_)
        go_wp2_with fail
        refine (HS5.out _ _ W4 (HL.out.below (bel_two HB HW).out) (HAa.out.row rfl)).mono ?_
        rintro e w' ⟨rfl, rfl⟩
        go_wp2_with fail
        refine hK _ _ (cv_of (HRa.out.keep HW.out)) ?_
        clear hK K
        refine Sch.tree_e rfl rfl (fun K hK => ?_)
        go_wp2_with fail
        refine (HU.out _ _ W4 (HL.out.below (bel_two HB HW).out) (HBb.out.row rfl)).mono ?_
        rintro e w' ⟨rfl, rfl⟩
        go_wp2_with fail
        refine hK _ _ (cv_of (HRa.out.keep HW.out)) ?_
        clear hK K
        refine Sch.tree_e rfl rfl (fun K hK => ?_)
        go_wp2_with fail
        refine (HT9.out W4 (HL.out.below (bel_two HB HW).out)).mono ?_
        rintro e W5 ⟨rfl, hb⟩
        replace HW := bel_tr HW hb
        clear hb HAa HBb
        go_wp2_with fail
        refine hK _ _ (cv_of (HRa.out.keep HW.out)) ?_
        clear hK K
        repeat (first | (refine Sch.tree_q rfl rfl (fun K hK => ?_); go_big_quiet_op; (first | refine hK _ ?_ | refine ⟨_, fun _ _ => rfl, hK _ ?_⟩); clear hK K) | (refine Sch.tree_s _ rfl rfl rfl ?_; simp only [Act.put, List.setIfInBounds_toArray, List.set_cons_zero, List.set_cons_succ]))
        refine Sch.tree_conv _ _ _ _ _ rfl rfl rfl (fun w h => h) rfl ?_
        simp only [Act.put, List.setIfInBounds_toArray, List.set_cons_zero, List.set_cons_succ]
        refine Sch.tree_e rfl rfl (fun K hK => ?_)
        go_wp2_with fail
        have HC1 : Hid (Blk (W5.alloc (.cells #[.int .u8 97] 5)) W5.heap.size #[.int .u8 97]) := Blk.new W5 #[.int .u8 97]
        have hloC1 : W0.heap.size ≤ W5.heap.size := HW.out.size
        replace HW := bel_a (.cells #[.int .u8 97] 5) HW
        refine hK _ _ (cv_of (HRa.out.keep HW.out)) ?_
        clear hK K
        generalize W5.alloc (.cells #[.int .u8 97] 5) = W6 at *
        have hmk : (convert 23 23 (.slice (some ⟨W5.heap.size, 0, none⟩) 1 1)).run Tryd.prog W6 = .ok (.slice (some ⟨W5.heap.size, 0, none⟩) 1 1) (mkd W6 W5.heap.size 1) := mark_run W6 W5.heap.size #[.int .u8 97] HC1.out 1 1
        refine Sch.tree_e rfl rfl (fun K hK => ?_)
        go_wp2_with fail
        replace HW := bel_mark HW hloC1 1
        replace HC1 := Lib.hid (HC1.out.mark (W5.heap.size) 1)
        refine hK _ _ (cv_of (HRa.out.keep HW.out)) ?_
        clear hK K hmk
        generalize mkd W6 W5.heap.size 1 = W7 at *
        refine Sch.tree_e rfl rfl (fun K hK => ?_)
        go_wp2_with fail
        refine (HA.out _ _ W7 (HL.out.below (bel_two HB HW).out) (HC1.out.row rfl) (fun h => by cases h)).mono ?_
        rintro e W8 ⟨v, rfl, ho, hb⟩
        obtain ⟨x, y, rfl, hrow1, -, -⟩ := ho.row
        have hcx : (convert 23 9 (.slice x 5 y)).run Tryd.prog W8 = .ok (.string ⟨#[97, 193, 208, 67, 48]⟩) W8 := G.conv_row (P := Tryd.prog) hrow1 5 rfl y 23 9 5 Tryd.underlying23 Tryd.underlying5 Tryd.underlying9
        have HX := Lib.hid hcx
        replace HW := bel_tr HW hb
        clear hb ho hrow1 HC1 hcx
        go_wp2_with fail
        refine hK _ _ (cv_of (HRa.out.keep HW.out)) ?_
        clear hK K
        have hcx := HX.out
        refine Sch.tree_e rfl rfl (fun K hK => ?_)
        go_wp2_with fail
        refine hK _ _ (cv_of (HRa.out.keep HW.out)) ?_
        clear hK K hcx HX
        repeat (first | (refine Sch.tree_q rfl rfl (fun K hK => ?_); go_big_quiet_op; (first | refine hK _ ?_ | refine ⟨_, fun _ _ => rfl, hK _ ?_⟩); clear hK K) | (refine Sch.tree_s _ rfl rfl rfl ?_; simp only [Act.put, List.setIfInBounds_toArray, List.set_cons_zero, List.set_cons_succ]))
        refine Sch.tree_e rfl rfl (fun K hK => ?_)
        go_wp2_with fail
        have HC2 : Hid (Blk (W8.alloc (.cells #[.int .u8 97] 5)) W8.heap.size #[.int .u8 97]) := Blk.new W8 #[.int .u8 97]
        have hloC2 : W0.heap.size ≤ W8.heap.size := HW.out.size
        replace HW := bel_a (.cells #[.int .u8 97] 5) HW
        refine hK _ _ (cv_of (HRa.out.keep HW.out)) ?_
        clear hK K
        generalize W8.alloc (.cells #[.int .u8 97] 5) = W9 at *
        refine Sch.tree_e rfl rfl (fun K hK => ?_)
        go_wp2_with fail
        refine (HO1.out _ _ _ _ W9 (HL.out.below (bel_two HB HW).out) (HRa.out.keep HW.out) (HC2.out.row rfl) (fun h => by cases h) (by simp)).mono ?_
        rintro e W10 ⟨rfl, hb⟩
        replace HW := bel_tr HW hb
        clear hb HC2
        go_wp2_with fail
        refine hK _ _ (cv_of (HRa.out.keep HW.out)) ?_
        clear hK K
        repeat (first | (refine Sch.tree_q rfl rfl (fun K hK => ?_); go_big_quiet_op; (first | refine hK _ ?_ | refine ⟨_, fun _ _ => rfl, hK _ ?_⟩); clear hK K) | (refine Sch.tree_s _ rfl rfl rfl ?_; simp only [Act.put, List.setIfInBounds_toArray, List.set_cons_zero, List.set_cons_succ]))
        refine Sch.tree_n ?_
        replace HB := bel_two HB HW
        clear HW HRa
        go_wp2_with fail
        go_meet
        case rel => exact ⟨rfl, HB⟩
  ·
    refine Sch.tree_e rfl rfl (fun K hK => ?_)
    go_wp2_with fail
    have HBb : Hid (Blk (W0.alloc (.cells #[.int .u8 54, .int .u8 55, .int .u8 56, .int .u8 57] 5)) W0.heap.size #[.int .u8 54, .int .u8 55, .int .u8 56, .int .u8 57]) := Blk.new W0 #[.int .u8 54, .int .u8 55, .int .u8 56, .int .u8 57]
    have hloBb : W0.heap.size ≤ W0.heap.size := HW.out.size
    replace HW := bel_a (.cells #[.int .u8 54, .int .u8 55, .int .u8 56, .int .u8 57] 5) HW
    refine hK _ _ (cv_of (HRa.out.keep HW.out)) ?_
    clear hK K
    generalize W0.alloc (.cells #[.int .u8 54, .int .u8 55, .int .u8 56, .int .u8 57] 5) = W1 at *
    refine Sch.tree_two ?_ ?_
    ·
      refine Sch.tree_e rfl rfl (fun K hK => ?_)
      go_wp2_with fail
      have HAa : Hid (Blk (W1.alloc (.cells #[.int .u8 49, .int .u8 50, .int .u8 51, .int .u8 52, .int .u8 53] 5)) W1.heap.size #[.int .u8 49, .int .u8 50, .int .u8 51, .int .u8 52, .int .u8 53]) := Blk.new W1 #[.int .u8 49, .int .u8 50, .int .u8 51, .int .u8 52, .int .u8 53]
      have hloAa : W0.heap.size ≤ W1.heap.size := HW.out.size
      replace HBb := Lib.hid (HBb.out.al (.cells #[.int .u8 49, .int .u8 50, .int .u8 51, .int .u8 52, .int .u8 53] 5))
      replace HW := bel_a (.cells #[.int .u8 49, .int .u8 50, .int .u8 51, .int .u8 52, .int .u8 53] 5) HW
      refine hK _ _ (cv_of (HRa.out.keep HW.out)) ?_
      clear hK K
      generalize W1.alloc (.cells #[.int .u8 49, .int .u8 50, .int .u8 51, .int .u8 52, .int .u8 53] 5) = W2 at *
      refine Sch.tree_two ?_ ?_
      ·
        have hmk : (convert 23 23 (.slice (some ⟨W1.heap.size, 0, none⟩) 5 5)).run Tryd.prog W2 = .ok (.slice (some ⟨W1.heap.size, 0, none⟩) 5 5) (mkd W2 W1.heap.size 5) := mark_run W2 W1.heap.size #[.int .u8 49, .int .u8 50, .int .u8 51, .int .u8 52, .int .u8 53] HAa.out 5 5
        refine Sch.tree_e rfl rfl (fun K hK => ?_)
        go_wp2_with fail
        replace HW := bel_mark HW hloAa 5
        replace HAa := Lib.hid (HAa.out.mark (W1.heap.size) 5)
        replace HBb := Lib.hid (HBb.out.mark (W1.heap.size) 5)
        refine hK _ _ (cv_of (HRa.out.keep HW.out)) ?_
        clear hK K hmk
        generalize mkd W2 W1.heap.size 5 = W3 at *
        refine Sch.tree_two ?_ ?_
        ·
          refine Sch.tree_e rfl rfl (fun K hK => ?_)
          go_wp2_with fail
          refine (HS5.out _ _ W3 (HL.out.below (bel_two HB HW).out) (HAa.out.row rfl)).mono ?_
          rintro e w' ⟨rfl, rfl⟩
          go_wp2_with fail
          refine hK _ _ (cv_of (HRa.out.keep HW.out)) ?_
          clear hK K
          have hmk : (convert 23 23 (.slice (some ⟨W0.heap.size, 0, none⟩) 4 4)).run Tryd.prog W3 = .ok (.slice (some ⟨W0.heap.size, 0, none⟩) 4 4) (mkd W3 W0.heap.size 4) := mark_run W3 W0.heap.size #[.int .u8 54, .int .u8 55, .int .u8 56, .int .u8 57] HBb.out 4 4
          refine Sch.tree_e rfl rfl (fun K hK => ?_)
          go_wp2_with fail
          replace HW := bel_mark HW hloBb 4
          replace HBb := Lib.hid (HBb.out.mark (W0.heap.size) 4)
          replace HAa := Lib.hid (HAa.out.mark (W0.heap.size) 4)
          refine hK _ _ (cv_of (HRa.out.keep HW.out)) ?_
          clear hK K hmk
          generalize mkd W3 W0.heap.size 4 = W4 at *
          refine Sch.tree_e rfl rfl (fun K hK => ?_)
          go_wp2_with fail
          refine (HU.out _ _ W4 (HL.out.below (bel_two HB HW).out) (HBb.out.row rfl)).mono ?_
          rintro e w' ⟨rfl, rfl⟩
          go_wp2_with fail
          refine hK _ _ (cv_of (HRa.out.keep HW.out)) ?_
          clear hK K
          refine Sch.tree_e rfl rfl (fun K hK => ?_)
          go_wp2_with fail
          refine (HT9.out W4 (HL.out.below (bel_two HB HW).out)).mono ?_
          rintro e W5 ⟨rfl, hb⟩
          replace HW := bel_tr HW hb
          clear hb HAa HBb
          go_wp2_with fail
          refine hK _ _ (cv_of (HRa.out.keep HW.out)) ?_
          clear hK K
          repeat (first | (refine Sch.tree_q rfl rfl (fun K hK => ?_); go_big_quiet_op; (first | refine hK _ ?_ | refine ⟨_, fun _ _ => rfl, hK _ ?_⟩); clear hK K) | (refine Sch.tree_s _ rfl rfl rfl ?_; simp only [Act.put, List.setIfInBounds_toArray, List.set_cons_zero, List.set_cons_succ]))
          refine Sch.tree_conv _ _ _ _ _ rfl rfl rfl (fun w h => h) rfl ?_
          simp only [Act.put, List.setIfInBounds_toArray, List.set_cons_zero, List.set_cons_succ]
          refine Sch.tree_e rfl rfl (fun K hK => ?_)
          go_wp2_with fail
          have HC1 : Hid (Blk (W5.alloc (.cells #[.int .u8 97] 5)) W5.heap.size #[.int .u8 97]) := Blk.new W5 #[.int .u8 97]
          have hloC1 : W0.heap.size ≤ W5.heap.size := HW.out.size
          replace HW := bel_a (.cells #[.int .u8 97] 5) HW
          refine hK _ _ (cv_of (HRa.out.keep HW.out)) ?_
          clear hK K
          generalize W5.alloc (.cells #[.int .u8 97] 5) = W6 at *
          have hmk : (convert 23 23 (.slice (some ⟨W5.heap.size, 0, none⟩) 1 1)).run Tryd.prog W6 = .ok (.slice (some ⟨W5.heap.size, 0, none⟩) 1 1) (mkd W6 W5.heap.size 1) := mark_run W6 W5.heap.size #[.int .u8 97] HC1.out 1 1
          refine Sch.tree_e rfl rfl (fun K hK => ?_)
          go_wp2_with fail
          replace HW := bel_mark HW hloC1 1
          replace HC1 := Lib.hid (HC1.out.mark (W5.heap.size) 1)
          refine hK _ _ (cv_of (HRa.out.keep HW.out)) ?_
          clear hK K hmk
          generalize mkd W6 W5.heap.size 1 = W7 at *
          refine Sch.tree_e rfl rfl (fun K hK => ?_)
          go_wp2_with fail
          refine (HA.out _ _ W7 (HL.out.below (bel_two HB HW).out) (HC1.out.row rfl) (fun h => by cases h)).mono ?_
          rintro e W8 ⟨v, rfl, ho, hb⟩
          obtain ⟨x, y, rfl, hrow1, -, -⟩ := ho.row
          have hcx : (convert 23 9 (.slice x 5 y)).run Tryd.prog W8 = .ok (.string ⟨#[97, 193, 208, 67, 48]⟩) W8 := G.conv_row (P := Tryd.prog) hrow1 5 rfl y 23 9 5 Tryd.underlying23 Tryd.underlying5 Tryd.underlying9
          have HX := Lib.hid hcx
          replace HW := bel_tr HW hb
          clear hb ho hrow1 HC1 hcx
          go_wp2_with fail
          refine hK _ _ (cv_of (HRa.out.keep HW.out)) ?_
          clear hK K
          have hcx := HX.out
          refine Sch.tree_e rfl rfl (fun K hK => ?_)
          go_wp2_with fail
          refine hK _ _ (cv_of (HRa.out.keep HW.out)) ?_
          clear hK K hcx HX
          repeat (first | (refine Sch.tree_q rfl rfl (fun K hK => ?_); go_big_quiet_op; (first | refine hK _ ?_ | refine ⟨_, fun _ _ => rfl, hK _ ?_⟩); clear hK K) | (refine Sch.tree_s _ rfl rfl rfl ?_; simp only [Act.put, List.setIfInBounds_toArray, List.set_cons_zero, List.set_cons_succ]))
          refine Sch.tree_e rfl rfl (fun K hK => ?_)
          go_wp2_with fail
          have HC2 : Hid (Blk (W8.alloc (.cells #[.int .u8 97] 5)) W8.heap.size #[.int .u8 97]) := Blk.new W8 #[.int .u8 97]
          have hloC2 : W0.heap.size ≤ W8.heap.size := HW.out.size
          replace HW := bel_a (.cells #[.int .u8 97] 5) HW
          refine hK _ _ (cv_of (HRa.out.keep HW.out)) ?_
          clear hK K
          generalize W8.alloc (.cells #[.int .u8 97] 5) = W9 at *
          refine Sch.tree_e rfl rfl (fun K hK => ?_)
          go_wp2_with fail
          refine (HO1.out _ _ _ _ W9 (HL.out.below (bel_two HB HW).out) (HRa.out.keep HW.out) (HC2.out.row rfl) (fun h => by cases h) (by simp)).mono ?_
          rintro e W10 ⟨rfl, hb⟩
          replace HW := bel_tr HW hb
          clear hb HC2
          go_wp2_with fail
          refine hK _ _ (cv_of (HRa.out.keep HW.out)) ?_
          clear hK K
          repeat (first | (refine Sch.tree_q rfl rfl (fun K hK => ?_); go_big_quiet_op; (first | refine hK _ ?_ | refine ⟨_, fun _ _ => rfl, hK _ ?_⟩); clear hK K) | (refine Sch.tree_s _ rfl rfl rfl ?_; simp only [Act.put, List.setIfInBounds_toArray, List.set_cons_zero, List.set_cons_succ]))
          refine Sch.tree_n ?_
          replace HB := bel_two HB HW
          clear HW HRa
          go_wp2_with fail
          go_meet
          case rel => exact ⟨rfl, HB⟩
        ·
          have hmk : (convert 23 23 (.slice (some ⟨W0.heap.size, 0, none⟩) 4 4)).run Tryd.prog W3 = .ok (.slice (some ⟨W0.heap.size, 0, none⟩) 4 4) (mkd W3 W0.heap.size 4) := mark_run W3 W0.heap.size #[.int .u8 54, .int .u8 55, .int .u8 56, .int .u8 57] HBb.out 4 4
          refine Sch.tree_e rfl rfl (fun K hK => ?_)
          go_wp2_with fail
          replace HW := bel_mark HW hloBb 4
          replace HBb := Lib.hid (HBb.out.mark (W0.heap.size) 4)
          replace HAa := Lib.hid (HAa.out.mark (W0.heap.size) 4)
          refine hK _ _ (cv_of (HRa.out.keep HW.out)) ?_
          clear hK K hmk
          generalize mkd W3 W0.heap.size 4 = W4 at *
          refine Sch.tree_e rfl rfl (fun K hK => ?_)
          go_wp2_with fail
          refine (HS5.out _ _ W4 (HL.out.below (bel_two HB HW).out) (HAa.out.row rfl)).mono ?_
          rintro e w' ⟨rfl, rfl⟩
          go_wp2_with fail
          refine hK _ _ (cv_of (HRa.out.keep HW.out)) ?_
          clear hK K
          refine Sch.tree_e rfl rfl (fun K hK => ?_)
          go_wp2_with fail
          refine (HU.out _ _ W4 (HL.out.below (bel_two HB HW).out) (HBb.out.row rfl)).mono ?_
          rintro e w' ⟨rfl, rfl⟩
          go_wp2_with fail
          refine hK _ _ (cv_of (HRa.out.keep HW.out)) ?_
          clear hK K
          refine Sch.tree_e rfl rfl (fun K hK => ?_)
          go_wp2_with fail
          refine (HT9.out W4 (HL.out.below (bel_two HB HW).out)).mono ?_
          rintro e W5 ⟨rfl, hb⟩
          replace HW := bel_tr HW hb
          clear hb HAa HBb
          go_wp2_with fail
          refine hK _ _ (cv_of (HRa.out.keep HW.out)) ?_
          clear hK K
          repeat (first | (refine Sch.tree_q rfl rfl (fun K hK => ?_); go_big_quiet_op; (first | refine hK _ ?_ | refine ⟨_, fun _ _ => rfl, hK _ ?_⟩); clear hK K) | (refine Sch.tree_s _ rfl rfl rfl ?_; simp only [Act.put, List.setIfInBounds_toArray, List.set_cons_zero, List.set_cons_succ]))
          refine Sch.tree_conv _ _ _ _ _ rfl rfl rfl (fun w h => h) rfl ?_
          simp only [Act.put, List.setIfInBounds_toArray, List.set_cons_zero, List.set_cons_succ]
          refine Sch.tree_e rfl rfl (fun K hK => ?_)
          go_wp2_with fail
          have HC1 : Hid (Blk (W5.alloc (.cells #[.int .u8 97] 5)) W5.heap.size #[.int .u8 97]) := Blk.new W5 #[.int .u8 97]
          have hloC1 : W0.heap.size ≤ W5.heap.size := HW.out.size
          replace HW := bel_a (.cells #[.int .u8 97] 5) HW
          refine hK _ _ (cv_of (HRa.out.keep HW.out)) ?_
          clear hK K
          generalize W5.alloc (.cells #[.int .u8 97] 5) = W6 at *
          have hmk : (convert 23 23 (.slice (some ⟨W5.heap.size, 0, none⟩) 1 1)).run Tryd.prog W6 = .ok (.slice (some ⟨W5.heap.size, 0, none⟩) 1 1) (mkd W6 W5.heap.size 1) := mark_run W6 W5.heap.size #[.int .u8 97] HC1.out 1 1
          refine Sch.tree_e rfl rfl (fun K hK => ?_)
          go_wp2_with fail
          replace HW := bel_mark HW hloC1 1
          replace HC1 := Lib.hid (HC1.out.mark (W5.heap.size) 1)
          refine hK _ _ (cv_of (HRa.out.keep HW.out)) ?_
          clear hK K hmk
          generalize mkd W6 W5.heap.size 1 = W7 at *
          refine Sch.tree_e rfl rfl (fun K hK => ?_)
          go_wp2_with fail
          refine (HA.out _ _ W7 (HL.out.below (bel_two HB HW).out) (HC1.out.row rfl) (fun h => by cases h)).mono ?_
          rintro e W8 ⟨v, rfl, ho, hb⟩
          obtain ⟨x, y, rfl, hrow1, -, -⟩ := ho.row
          have hcx : (convert 23 9 (.slice x 5 y)).run Tryd.prog W8 = .ok (.string ⟨#[97, 193, 208, 67, 48]⟩) W8 := G.conv_row (P := Tryd.prog) hrow1 5 rfl y 23 9 5 Tryd.underlying23 Tryd.underlying5 Tryd.underlying9
          have HX := Lib.hid hcx
          replace HW := bel_tr HW hb
          clear hb ho hrow1 HC1 hcx
          go_wp2_with fail
          refine hK _ _ (cv_of (HRa.out.keep HW.out)) ?_
          clear hK K
          have hcx := HX.out
          refine Sch.tree_e rfl rfl (fun K hK => ?_)
          go_wp2_with fail
          refine hK _ _ (cv_of (HRa.out.keep HW.out)) ?_
          clear hK K hcx HX
          repeat (first | (refine Sch.tree_q rfl rfl (fun K hK => ?_); go_big_quiet_op; (first | refine hK _ ?_ | refine ⟨_, fun _ _ => rfl, hK _ ?_⟩); clear hK K) | (refine Sch.tree_s _ rfl rfl rfl ?_; simp only [Act.put, List.setIfInBounds_toArray, List.set_cons_zero, List.set_cons_succ]))
          refine Sch.tree_e rfl rfl (fun K hK => ?_)
          go_wp2_with fail
          have HC2 : Hid (Blk (W8.alloc (.cells #[.int .u8 97] 5)) W8.heap.size #[.int .u8 97]) := Blk.new W8 #[.int .u8 97]
          have hloC2 : W0.heap.size ≤ W8.heap.size := HW.out.size
          replace HW := bel_a (.cells #[.int .u8 97] 5) HW
          refine hK _ _ (cv_of (HRa.out.keep HW.out)) ?_
          clear hK K
          generalize W8.alloc (.cells #[.int .u8 97] 5) = W9 at *
          refine Sch.tree_e rfl rfl (fun K hK => ?_)
          go_wp2_with fail
          refine (HO1.out _ _ _ _ W9 (HL.out.below (bel_two HB HW).out) (HRa.out.keep HW.out) (HC2.out.row rfl) (fun h => by cases h) (by simp)).mono ?_
          rintro e W10 ⟨rfl, hb⟩
          replace HW := bel_tr HW hb
          clear hb HC2
          go_wp2_with fail
          refine hK _ _ (cv_of (HRa.out.keep HW.out)) ?_
          clear hK K
          repeat (first | (refine Sch.tree_q rfl rfl (fun K hK => ?_); go_big_quiet_op; (first | refine hK _ ?_ | refine ⟨_, fun _ _ => rfl, hK _ ?_⟩); clear hK K) | (refine Sch.tree_s _ rfl rfl rfl ?_; simp only [Act.put, List.setIfInBounds_toArray, List.set_cons_zero, List.set_cons_succ]))
          refine Sch.tree_n ?_
          replace HB := bel_two HB HW
          clear HW HRa
          go_wp2_with fail
          go_meet
          case rel => exact ⟨rfl, HB⟩
      ·
        have hmk : (convert 23 23 (.slice (some ⟨W0.heap.size, 0, none⟩) 4 4)).run Tryd.prog W2 = .ok (.slice (some ⟨W0.heap.size, 0, none⟩) 4 4) (mkd W2 W0.heap.size 4) := mark_run W2 W0.heap.size #[.int .u8 54, .int .u8 55, .int .u8 56, .int .u8 57] HBb.out 4 4
        refine Sch.tree_e rfl rfl (fun K hK => ?_)
        go_wp2_with fail
        replace HW := bel_mark HW hloBb 4
        replace HBb := Lib.hid (HBb.out.mark (W0.heap.size) 4)
        replace HAa := Lib.hid (HAa.out.mark (W0.heap.size) 4)
        refine hK _ _ (cv_of (HRa.out.keep HW.out)) ?_
        clear hK K hmk
        generalize mkd W2 W0.heap.size 4 = W3 at *
        have hmk : (convert 23 23 (.slice (some ⟨W1.heap.size, 0, none⟩) 5 5)).run Tryd.prog W3 = .ok (.slice (some ⟨W1.heap.size, 0, none⟩) 5 5) (mkd W3 W1.heap.size 5) := mark_run W3 W1.heap.size #[.int .u8 49, .int .u8 50, .int .u8 51, .int .u8 52, .int .u8 53] HAa.out 5 5
        refine Sch.tree_e rfl rfl (fun K hK => ?_)
        go_wp2_with fail
        replace HW := bel_mark HW hloAa 5
        replace HAa := Lib.hid (HAa.out.mark (W1.heap.size) 5)
        replace HBb := Lib.hid (HBb.out.mark (W1.heap.size) 5)
        refine hK _ _ (cv_of (HRa.out.keep HW.out)) ?_
        clear hK K hmk
        generalize mkd W3 W1.heap.size 5 = W4 at *
        refine Sch.tree_e rfl rfl (fun K hK => ?_)
        go_wp2_with fail
        refine (HS5.out _ _ W4 (HL.out.below (bel_two HB HW).out) (HAa.out.row rfl)).mono ?_
        rintro e w' ⟨rfl, rfl⟩
        go_wp2_with fail
        refine hK _ _ (cv_of (HRa.out.keep HW.out)) ?_
        clear hK K
        refine Sch.tree_e rfl rfl (fun K hK => ?_)
        go_wp2_with fail
        refine (HU.out _ _ W4 (HL.out.below (bel_two HB HW).out) (HBb.out.row rfl)).mono ?_
        rintro e w' ⟨rfl, rfl⟩
        go_wp2_with fail
        refine hK _ _ (cv_of (HRa.out.keep HW.out)) ?_
        clear hK K
        refine Sch.tree_e rfl rfl (fun K hK => ?_)
        go_wp2_with fail
        refine (HT9.out W4 (HL.out.below (bel_two HB HW).out)).mono ?_
        rintro e W5 ⟨rfl, hb⟩
        replace HW := bel_tr HW hb
        clear hb HAa HBb
        go_wp2_with fail
        refine hK _ _ (cv_of (HRa.out.keep HW.out)) ?_
        clear hK K
        repeat (first | (refine Sch.tree_q rfl rfl (fun K hK => ?_); go_big_quiet_op; (first | refine hK _ ?_ | refine ⟨_, fun _ _ => rfl, hK _ ?_⟩); clear hK K) | (refine Sch.tree_s _ rfl rfl rfl ?_; simp only [Act.put, List.setIfInBounds_toArray, List.set_cons_zero, List.set_cons_succ]))
        refine Sch.tree_conv _ _ _ _ _ rfl rfl rfl (fun w h => h) rfl ?_
        simp only [Act.put, List.setIfInBounds_toArray, List.set_cons_zero, List.set_cons_succ]
        refine Sch.tree_e rfl rfl (fun K hK => ?_)
        go_wp2_with fail
        have HC1 : Hid (Blk (W5.alloc (.cells #[.int .u8 97] 5)) W5.heap.size #[.int .u8 97]) := Blk.new W5 #[.int .u8 97]
        have hloC1 : W0.heap.size ≤ W5.heap.size := HW.out.size
        replace HW := bel_a (.cells #[.int .u8 97] 5) HW
        refine hK _ _ (cv_of (HRa.out.keep HW.out)) ?_
        clear hK K
        generalize W5.alloc (.cells #[.int .u8 97] 5) = W6 at *
        have hmk : (convert 23 23 (.slice (some ⟨W5.heap.size, 0, none⟩) 1 1)).run Tryd.prog W6 = .ok (.slice (some ⟨W5.heap.size, 0, none⟩) 1 1) (mkd W6 W5.heap.size 1) := mark_run W6 W5.heap.size #[.int .u8 97] HC1.out 1 1
        refine Sch.tree_e rfl rfl (fun K hK => ?_)
        go_wp2_with fail
        replace HW := bel_mark HW hloC1 1
        replace HC1 := Lib.hid (HC1.out.mark (W5.heap.size) 1)
        refine hK _ _ (cv_of (HRa.out.keep HW.out)) ?_
        clear hK K hmk
        generalize mkd W6 W5.heap.size 1 = W7 at *
        refine Sch.tree_e rfl rfl (fun K hK => ?_)
        go_wp2_with fail
        refine (HA.out _ _ W7 (HL.out.below (bel_two HB HW).out) (HC1.out.row rfl) (fun h => by cases h)).mono ?_
        rintro e W8 ⟨v, rfl, ho, hb⟩
        obtain ⟨x, y, rfl, hrow1, -, -⟩ := ho.row
        have hcx : (convert 23 9 (.slice x 5 y)).run Tryd.prog W8 = .ok (.string ⟨#[97, 193, 208, 67, 48]⟩) W8 := G.conv_row (P := Tryd.prog) hrow1 5 rfl y 23 9 5 Tryd.underlying23 Tryd.underlying5 Tryd.underlying9
        have HX := Lib.hid hcx
        replace HW := bel_tr HW hb
        clear hb ho hrow1 HC1 hcx
        go_wp2_with fail
        refine hK _ _ (cv_of (HRa.out.keep HW.out)) ?_
        clear hK K
        have hcx := HX.out
        refine Sch.tree_e rfl rfl (fun K hK => ?_)
        go_wp2_with fail
        refine hK _ _ (cv_of (HRa.out.keep HW.out)) ?_
        clear hK K hcx HX
        repeat (first | (refine Sch.tree_q rfl rfl (fun K hK => ?_); go_big_quiet_op; (first | refine hK _ ?_ | refine ⟨_, fun _ _ => rfl, hK _ ?_⟩); clear hK K) | (refine Sch.tree_s _ rfl rfl rfl ?_; simp only [Act.put, List.setIfInBounds_toArray, List.set_cons_zero, List.set_cons_succ]))
        refine Sch.tree_e rfl rfl (fun K hK => ?_)
        go_wp2_with fail
        have HC2 : Hid (Blk (W8.alloc (.cells #[.int .u8 97] 5)) W8.heap.size #[.int .u8 97]) := Blk.new W8 #[.int .u8 97]
        have hloC2 : W0.heap.size ≤ W8.heap.size := HW.out.size
        replace HW := bel_a (.cells #[.int .u8 97] 5) HW
        refine hK _ _ (cv_of (HRa.out.keep HW.out)) ?_
        clear hK K
        generalize W8.alloc (.cells #[.int .u8 97] 5) = W9 at *
        refine Sch.tree_e rfl rfl (fun K hK => ?_)
        go_wp2_with fail
        refine (HO1.out _ _ _ _ W9 (HL.out.below (bel_two HB HW).out) (HRa.out.keep HW.out) (HC2.out.row rfl) (fun h => by cases h) (by simp)).mono ?_
        rintro e W10 ⟨rfl, hb⟩
        replace HW := bel_tr HW hb
        clear hb HC2
        go_wp2_with fail
        refine hK _ _ (cv_of (HRa.out.keep HW.out)) ?_
        clear hK K
        repeat (first | (refine Sch.tree_q rfl rfl (fun K hK => ?_); go_big_quiet_op; (first | refine hK _ ?_ | refine ⟨_, fun _ _ => rfl, hK _ ?_⟩); clear hK K) | (refine Sch.tree_s _ rfl rfl rfl ?_; simp only [Act.put, List.setIfInBounds_toArray, List.set_cons_zero, List.set_cons_succ]))
        refine Sch.tree_n ?_
        replace HB := bel_two HB HW
        clear HW HRa
        go_wp2_with fail
        go_meet
        case rel => exact ⟨rfl, HB⟩
    ·
      have hmk : (convert 23 23 (.slice (some ⟨W0.heap.size, 0, none⟩) 4 4)).run Tryd.prog W1 = .ok (.slice (some ⟨W0.heap.size, 0, none⟩) 4 4) (mkd W1 W0.heap.size 4) := mark_run W1 W0.heap.size #[.int .u8 54, .int .u8 55, .int .u8 56, .int .u8 57] HBb.out 4 4
      refine Sch.tree_e rfl rfl (fun K hK => ?_)
      go_wp2_with fail
      replace HW := bel_mark HW hloBb 4
      replace HBb := Lib.hid (HBb.out.mark (W0.heap.size) 4)
      refine hK _ _ (cv_of (HRa.out.keep HW.out)) ?_
      clear hK K hmk
      generalize mkd W1 W0.heap.size 4 = W2 at *
      refine Sch.tree_e rfl rfl (fun K hK => ?_)
      go_wp2_with fail
      have HAa : Hid (Blk (W2.alloc (.cells #[.int .u8 49, .int .u8 50, .int .u8 51, .int .u8 52, .int .u8 53] 5)) W2.heap.size #[.int .u8 49, .int .u8 50, .int .u8 51, .int .u8 52, .int .u8 53]) := Blk.new W2 #[.int .u8 49, .int .u8 50, .int .u8 51, .int .u8 52, .int .u8 53]
      have hloAa : W0.heap.size ≤ W2.heap.size := HW.out.size
      replace HBb := Lib.hid (HBb.out.al (.cells #[.int .u8 49, .int .u8 50, .int .u8 51, .int .u8 52, .int .u8 53] 5))
      replace HW := bel_a (.cells #[.int .u8 49, .int .u8 50, .int .u8 51, .int .u8 52, .int .u8 53] 5) HW
      refine hK _ _ (cv_of (HRa.out.keep HW.out)) ?_
      clear hK K
      generalize W2.alloc (.cells #[.int .u8 49, .int .u8 50, .int .u8 51, .int .u8 52, .int .u8 53] 5) = W3 at *
      have hmk : (convert 23 23 (.slice (some ⟨W2.heap.size, 0, none⟩) 5 5)).run Tryd.prog W3 = .ok (.slice (some ⟨W2.heap.size, 0, none⟩) 5 5) (mkd W3 W2.heap.size 5) := mark_run W3 W2.heap.size #[.int .u8 49, .int .u8 50, .int .u8 51, .int .u8 52, .int .u8 53] HAa.out 5 5
      refine Sch.tree_e rfl rfl (fun K hK => ?_)
      go_wp2_with fail
      replace HW := bel_mark HW hloAa 5
      replace HAa := Lib.hid (HAa.out.mark (W2.heap.size) 5)
      replace HBb := Lib.hid (HBb.out.mark (W2.heap.size) 5)
      refine hK _ _ (cv_of (HRa.out.keep HW.out)) ?_
      clear hK K hmk
      generalize mkd W3 W2.heap.size 5 = W4 at *
      refine Sch.tree_e rfl rfl (fun K hK => ?_)
      go_wp2_with fail
      refine (HS5.out _ _ W4 (HL.out.below (bel_two HB HW).out) (HAa.out.row rfl)).mono ?_
      rintro e w' ⟨rfl, rfl⟩
      go_wp2_with fail
      refine hK _ _ (cv_of (HRa.out.keep HW.out)) ?_
      clear hK K
      refine Sch.tree_e rfl rfl (fun K hK => ?_)
      go_wp2_with fail
      refine (HU.out _ _ W4 (HL.out.below (bel_two HB HW).out) (HBb.out.row rfl)).mono ?_
      rintro e w' ⟨rfl, rfl⟩
      go_wp2_with fail
      refine hK _ _ (cv_of (HRa.out.keep HW.out)) ?_
      clear hK K
      refine Sch.tree_e rfl rfl (fun K hK => ?_)
      go_wp2_with fail
      refine (HT9.out W4 (HL.out.below (bel_two HB HW).out)).mono ?_
      rintro e W5 ⟨rfl, hb⟩
      replace HW := bel_tr HW hb
      clear hb HAa HBb
      go_wp2_with fail
      refine hK _ _ (cv_of (HRa.out.keep HW.out)) ?_
      clear hK K
      repeat (first | (refine Sch.tree_q rfl rfl (fun K hK => ?_); go_big_quiet_op; (first | refine hK _ ?_ | refine ⟨_, fun _ _ => rfl, hK _ ?_⟩); clear hK K) | (refine Sch.tree_s _ rfl rfl rfl ?_; simp only [Act.put, List.setIfInBounds_toArray, List.set_cons_zero, List.set_cons_succ]))
      refine Sch.tree_conv _ _ _ _ _ rfl rfl rfl (fun w h => h) rfl ?_
      simp only [Act.put, List.setIfInBounds_toArray, List.set_cons_zero, List.set_cons_succ]
      refine Sch.tree_e rfl rfl (fun K hK => ?_)
      go_wp2_with fail
      have HC1 : Hid (Blk (W5.alloc (.cells #[.int .u8 97] 5)) W5.heap.size #[.int .u8 97]) := Blk.new W5 #[.int .u8 97]
      have hloC1 : W0.heap.size ≤ W5.heap.size := HW.out.size
      replace HW := bel_a (.cells #[.int .u8 97] 5) HW
      refine hK _ _ (cv_of (HRa.out.keep HW.out)) ?_
      clear hK K
      generalize W5.alloc (.cells #[.int .u8 97] 5) = W6 at *
      have hmk : (convert 23 23 (.slice (some ⟨W5.heap.size, 0, none⟩) 1 1)).run Tryd.prog W6 = .ok (.slice (some ⟨W5.heap.size, 0, none⟩) 1 1) (mkd W6 W5.heap.size 1) := mark_run W6 W5.heap.size #[.int .u8 97] HC1.out 1 1
      refine Sch.tree_e rfl rfl (fun K hK => ?_)
      go_wp2_with fail
      replace HW := bel_mark HW hloC1 1
      replace HC1 := Lib.hid (HC1.out.mark (W5.heap.size) 1)
      refine hK _ _ (cv_of (HRa.out.keep HW.out)) ?_
      clear hK K hmk
      generalize mkd W6 W5.heap.size 1 = W7 at *
      refine Sch.tree_e rfl rfl (fun K hK => ?_)
      go_wp2_with fail
      refine (HA.out _ _ W7 (HL.out.below (bel_two HB HW).out) (HC1.out.row rfl) (fun h => by cases h)).mono ?_
      rintro e W8 ⟨v, rfl, ho, hb⟩
      obtain ⟨x, y, rfl, hrow1, -, -⟩ := ho.row
      have hcx : (convert 23 9 (.slice x 5 y)).run Tryd.prog W8 = .ok (.string ⟨#[97, 193, 208, 67, 48]⟩) W8 := G.conv_row (P := Tryd.prog) hrow1 5 rfl y 23 9 5 Tryd.underlying23 Tryd.underlying5 Tryd.underlying9
      have HX := Lib.hid hcx
      replace HW := bel_tr HW hb
      clear hb ho hrow1 HC1 hcx
      go_wp2_with fail
      refine hK _ _ (cv_of (HRa.out.keep HW.out)) ?_
      clear hK K
      have hcx := HX.out
      refine Sch.tree_e rfl rfl (fun K hK => ?_)
      go_wp2_with fail
      refine hK _ _ (cv_of (HRa.out.keep HW.out)) ?_
      clear hK K hcx HX
      repeat (first | (refine Sch.tree_q rfl rfl (fun K hK => ?_); go_big_quiet_op; (first | refine hK _ ?_ | refine ⟨_, fun _ _ => rfl, hK _ ?_⟩); clear hK K) | (refine Sch.tree_s _ rfl rfl rfl ?_; simp only [Act.put, List.setIfInBounds_toArray, List.set_cons_zero, List.set_cons_succ]))
      refine Sch.tree_e rfl rfl (fun K hK => ?_)
      go_wp2_with fail
      have HC2 : Hid (Blk (W8.alloc (.cells #[.int .u8 97] 5)) W8.heap.size #[.int .u8 97]) := Blk.new W8 #[.int .u8 97]
      have hloC2 : W0.heap.size ≤ W8.heap.size := HW.out.size
      replace HW := bel_a (.cells #[.int .u8 97] 5) HW
      refine hK _ _ (cv_of (HRa.out.keep HW.out)) ?_
      clear hK K
      generalize W8.alloc (.cells #[.int .u8 97] 5) = W9 at *
      refine Sch.tree_e rfl rfl (fun K hK => ?_)
      go_wp2_with fail
      refine (HO1.out _ _ _ _ W9 (HL.out.below (bel_two HB HW).out) (HRa.out.keep HW.out) (HC2.out.row rfl) (fun h => by cases h) (by simp)).mono ?_
      rintro e W10 ⟨rfl, hb⟩
      replace HW := bel_tr HW hb
      clear hb HC2
      go_wp2_with fail
      refine hK _ _ (cv_of (HRa.out.keep HW.out)) ?_
      clear hK K
      repeat (first | (refine Sch.tree_q rfl rfl (fun K hK => ?_); go_big_quiet_op; (first | refine hK _ ?_ | refine ⟨_, fun _ _ => rfl, hK _ ?_⟩); clear hK K) | (refine Sch.tree_s _ rfl rfl rfl ?_; simp only [Act.put, List.setIfInBounds_toArray, List.set_cons_zero, List.set_cons_succ]))
      refine Sch.tree_n ?_
      replace HB := bel_two HB HW
      clear HW HRa
      go_wp2_with fail
      go_meet
      case rel => exact ⟨rfl, HB⟩
end Go.Proofs.YtgakbncglkegiaaDoor.C
