/-
  The law of orders.
-/
import Derived.Test.YtjdhdnlcaonnkaaDoorDKnown
namespace Go.Proofs.YtjdhdnlcaonnkaaDoor.D
set_option linter.unusedVariables false
open Go.RowKit V Go.Sort

/-- Two boxes with dots. -/
def K2 (g : Nat) (x y : Dt) (w : World) : Prop := Bx w g x ∧ Bx w (g + 1) y
theorem K2.keep {g : Nat} {x y : Dt} {w w' : World} (h : K2 g x y w) (hb : Below w.heap.size w w') : K2 g x y w' := ⟨h.1.keep hb, h.2.keep hb⟩
theorem K2.a {g : Nat} {x y : Dt} : ∀ w, K2 g x y w → (Instr.loadAt 23 (.pointer (some ⟨g, 0, none⟩))).run Tryd.prog w = .ok (.agg #[.int .i64 x.1, .int .i64 x.2]) w := fun w h => h.1.load
theorem K2.b {g : Nat} {x y : Dt} : ∀ w, K2 g x y w → (Instr.loadAt 23 (.pointer (some ⟨g + 1, 0, none⟩))).run Tryd.prog w = .ok (.agg #[.int .i64 y.1, .int .i64 y.2]) w := fun w h => h.2.load

set_option maxRecDepth 100000 in
set_option maxHeartbeats 4000000 in
theorem orders_law (x y : Dt) (w : World) (hL : Ld w) : Calls Tryd.prog 3 #[dv x, dv y] w fun e w' => e = .returned (.bool true) ∧ Below w.heap.size w w' := by
  have HLd := Lib.hid hL
  have H1 := Lib.hid (fun w => valid_any x w)
  have H2 := Lib.hid (fun w => valid_ref x w)
  have H3 := Lib.hid (fun w => root_any x w)
  have H4 := Lib.hid (fun w => root_ref x w)
  have H5 := Lib.hid (fun w => cmp_val x y _ rfl w)
  have H6 := Lib.hid (fun w => compare_ref x y w)
  have H7 := Lib.hid (fun w => cmp_val y x _ rfl w)
  have H8 := Lib.hid (fun w => compare_ref y x w)
  have HKn := Lib.hid (fun w hL => known_any w hL)
  clear hL
  generalize validR x = v at *
  generalize rootR x = r at *
  generalize cmpR x y = p at *
  generalize cmpR y x = q at *
  have hvv : (v == v) = true := by simp
  have hrr : (r == r) = true := by simp
  go_enter Tryd.func3, Tryd.ntmps3
  go_wp2_with fail
  have hK0 : K2 w.heap.size x y ((w.alloc (Obj.cells #[.int .i64 x.1, .int .i64 x.2] 23)).alloc (Obj.cells #[.int .i64 y.1, .int .i64 y.2] 23)) := by
    refine ⟨⟨?_, ?_⟩, ?_, ?_⟩ <;> go_simp
  have hB0 : Below w.heap.size w ((w.alloc (Obj.cells #[.int .i64 x.1, .int .i64 x.2] 23)).alloc (Obj.cells #[.int .i64 y.1, .int .i64 y.2] 23)) := (lays_alloc2 w _ _).bel
  generalize (w.alloc (Obj.cells #[.int .i64 x.1, .int .i64 x.2] 23)).alloc (Obj.cells #[.int .i64 y.1, .int .i64 y.2] 23) = w1 at *
  have HK := Lib.hid hK0
  have HB := Lib.hid hB0
  clear hK0 hB0
  refine Sch.wp_region_tree (K2 w.heap.size x y) (.take 0 (.take 2 (.one 1 (.one 3 (.take 4 (.take 5 (.take 6 (.take 8 (.one 7 (.one 9 (.take 10 (.take 11 (.take 12 (.take 13 (.take 14 (.take 16 (.take 17 (.one 15 (.one 18 (.take 19 (.take 20 (.take 21 (.take 22 (.take 23 (.take 25 (.take 26 (.one 24 (.one 27 (.take 28 (.take 29 (.take 30 (.one 31 (.take 32 (.take 33 .done)))))))))))))))))))))))))))))))))) (by kernel_rfl) (by kernel_rfl) (HK.out.keep ((Below.refl _ _).drew)) ?_
  have hb : Below w1.heap.size w1 w1.drew := (Below.refl _ _).drew
  replace HK := Lib.hid (HK.out.keep hb)
  replace HB := bel_tr HB hb
  clear hb
  generalize w1.drew = w2 at *
  repeat (first
    | (refine Sch.tree_q rfl rfl (fun K hK => ?_); go_big_quiet_op; (first | refine hK _ ?_ | refine ⟨_, fun _ _ => rfl, hK _ ?_⟩); clear hK K)
    | (refine tree_load _ _ _ _ _ rfl rfl rfl rfl (by first | exact K2.a | exact K2.b) rfl ?_; simp only [Act.put, List.setIfInBounds_toArray, List.set_cons_zero, List.set_cons_succ]))
  refine Sch.tree_e rfl rfl (fun K hK => ?_)
  go_wp2_with fail
  refine (H1.out _).mono ?_
  rintro e w4 ⟨rfl, hb⟩
  replace HK := Lib.hid (HK.out.keep hb)
  replace HB := bel_tr HB hb
  clear hb
  refine hK _ _ HK.out ?_
  clear hK K
  repeat (first
    | (refine Sch.tree_q rfl rfl (fun K hK => ?_); go_big_quiet_op; (first | refine hK _ ?_ | refine ⟨_, fun _ _ => rfl, hK _ ?_⟩); clear hK K)
    | (refine tree_load _ _ _ _ _ rfl rfl rfl rfl (by first | exact K2.a | exact K2.b) rfl ?_; simp only [Act.put, List.setIfInBounds_toArray, List.set_cons_zero, List.set_cons_succ]))
  refine Sch.tree_e rfl rfl (fun K hK => ?_)
  go_wp2_with fail
  refine (H2.out _).mono ?_
  rintro e w5 ⟨rfl, hb⟩
  replace HK := Lib.hid (HK.out.keep hb)
  replace HB := bel_tr HB hb
  clear hb
  refine hK _ _ HK.out ?_
  clear hK K
  repeat (first
    | (refine Sch.tree_q rfl rfl (fun K hK => ?_); go_big_quiet_op; (first | refine hK _ ?_ | refine ⟨_, fun _ _ => rfl, hK _ ?_⟩); clear hK K)
    | (refine tree_load _ _ _ _ _ rfl rfl rfl rfl (by first | exact K2.a | exact K2.b) rfl ?_; simp only [Act.put, List.setIfInBounds_toArray, List.set_cons_zero, List.set_cons_succ]))
  refine Sch.tree_e rfl rfl (fun K hK => ?_)
  go_wp2_with fail
  refine (H3.out _).mono ?_
  rintro e w6 ⟨rfl, hb⟩
  replace HK := Lib.hid (HK.out.keep hb)
  replace HB := bel_tr HB hb
  clear hb
  refine hK _ _ HK.out ?_
  clear hK K
  repeat (first
    | (refine Sch.tree_q rfl rfl (fun K hK => ?_); go_big_quiet_op; (first | refine hK _ ?_ | refine ⟨_, fun _ _ => rfl, hK _ ?_⟩); clear hK K)
    | (refine tree_load _ _ _ _ _ rfl rfl rfl rfl (by first | exact K2.a | exact K2.b) rfl ?_; simp only [Act.put, List.setIfInBounds_toArray, List.set_cons_zero, List.set_cons_succ]))
  refine Sch.tree_e rfl rfl (fun K hK => ?_)
  go_wp2_with fail
  refine (H4.out _).mono ?_
  rintro e w7 ⟨rfl, hb⟩
  replace HK := Lib.hid (HK.out.keep hb)
  replace HB := bel_tr HB hb
  clear hb
  refine hK _ _ HK.out ?_
  clear hK K
  repeat (first
    | (refine Sch.tree_q rfl rfl (fun K hK => ?_); go_big_quiet_op; (first | refine hK _ ?_ | refine ⟨_, fun _ _ => rfl, hK _ ?_⟩); clear hK K)
    | (refine tree_load _ _ _ _ _ rfl rfl rfl rfl (by first | exact K2.a | exact K2.b) rfl ?_; simp only [Act.put, List.setIfInBounds_toArray, List.set_cons_zero, List.set_cons_succ]))
  refine Sch.tree_e rfl rfl (fun K hK => ?_)
  go_wp2_with fail
  refine (H5.out _).mono ?_
  rintro e w8 ⟨rfl, hb⟩
  replace HK := Lib.hid (HK.out.keep hb)
  replace HB := bel_tr HB hb
  clear hb
  refine hK _ _ HK.out ?_
  clear hK K
  repeat (first
    | (refine Sch.tree_q rfl rfl (fun K hK => ?_); go_big_quiet_op; (first | refine hK _ ?_ | refine ⟨_, fun _ _ => rfl, hK _ ?_⟩); clear hK K)
    | (refine tree_load _ _ _ _ _ rfl rfl rfl rfl (by first | exact K2.a | exact K2.b) rfl ?_; simp only [Act.put, List.setIfInBounds_toArray, List.set_cons_zero, List.set_cons_succ]))
  refine Sch.tree_e rfl rfl (fun K hK => ?_)
  go_wp2_with fail
  refine (H6.out _).mono ?_
  rintro e w9 ⟨rfl, hb⟩
  replace HK := Lib.hid (HK.out.keep hb)
  replace HB := bel_tr HB hb
  clear hb
  refine hK _ _ HK.out ?_
  clear hK K
  repeat (first
    | (refine Sch.tree_q rfl rfl (fun K hK => ?_); go_big_quiet_op; (first | refine hK _ ?_ | refine ⟨_, fun _ _ => rfl, hK _ ?_⟩); clear hK K)
    | (refine tree_load _ _ _ _ _ rfl rfl rfl rfl (by first | exact K2.a | exact K2.b) rfl ?_; simp only [Act.put, List.setIfInBounds_toArray, List.set_cons_zero, List.set_cons_succ]))
  refine Sch.tree_e rfl rfl (fun K hK => ?_)
  go_wp2_with fail
  refine (H7.out _).mono ?_
  rintro e w10 ⟨rfl, hb⟩
  replace HK := Lib.hid (HK.out.keep hb)
  replace HB := bel_tr HB hb
  clear hb
  refine hK _ _ HK.out ?_
  clear hK K
  repeat (first
    | (refine Sch.tree_q rfl rfl (fun K hK => ?_); go_big_quiet_op; (first | refine hK _ ?_ | refine ⟨_, fun _ _ => rfl, hK _ ?_⟩); clear hK K)
    | (refine tree_load _ _ _ _ _ rfl rfl rfl rfl (by first | exact K2.a | exact K2.b) rfl ?_; simp only [Act.put, List.setIfInBounds_toArray, List.set_cons_zero, List.set_cons_succ]))
  refine Sch.tree_e rfl rfl (fun K hK => ?_)
  go_wp2_with fail
  refine (H8.out _).mono ?_
  rintro e w11 ⟨rfl, hb⟩
  replace HK := Lib.hid (HK.out.keep hb)
  replace HB := bel_tr HB hb
  clear hb
  refine hK _ _ HK.out ?_
  clear hK K
  repeat (first
    | (refine Sch.tree_q rfl rfl (fun K hK => ?_); go_big_quiet_op; (first | refine hK _ ?_ | refine ⟨_, fun _ _ => rfl, hK _ ?_⟩); clear hK K)
    | (refine tree_load _ _ _ _ _ rfl rfl rfl rfl (by first | exact K2.a | exact K2.b) rfl ?_; simp only [Act.put, List.setIfInBounds_toArray, List.set_cons_zero, List.set_cons_succ]))
  refine Sch.tree_e rfl rfl (fun K hK => ?_)
  go_wp2_with fail
  refine (HKn.out _ (HLd.out.below HB.out)).mono ?_
  rintro e w12 ⟨rfl, hb⟩
  replace HK := Lib.hid (HK.out.keep hb)
  replace HB := bel_tr HB hb
  clear hb
  refine hK _ _ HK.out ?_
  clear hK K
  repeat (first
    | (refine Sch.tree_q rfl rfl (fun K hK => ?_); go_big_quiet_op; (first | refine hK _ ?_ | refine ⟨_, fun _ _ => rfl, hK _ ?_⟩); clear hK K)
    | (refine tree_load _ _ _ _ _ rfl rfl rfl rfl (by first | exact K2.a | exact K2.b) rfl ?_; simp only [Act.put, List.setIfInBounds_toArray, List.set_cons_zero, List.set_cons_succ]))
  refine Sch.tree_n ?_
  go_wp2_with fail
  go_ret
  exact ⟨rfl, HB.out⟩
end Go.Proofs.YtjdhdnlcaonnkaaDoor.D
