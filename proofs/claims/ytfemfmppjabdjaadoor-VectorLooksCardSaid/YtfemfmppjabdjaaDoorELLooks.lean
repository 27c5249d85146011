/-
  The first law: valid vectors, counters, dots.
-/
import Derived.Test.YtfemfmppjabdjaaDoorEKnown
namespace Go.Proofs.YtfemfmppjabdjaaDoor.E
set_option linter.unusedVariables false
open Go.RowKit V Go.Sort D

/-- A box with the dot that came in. -/
def K1 (g : Nat) (d : Dt) (w : World) : Prop := w.cell? ⟨g, 0, none⟩ = some (.int .i64 d.1) ∧ w.cell? ⟨g, 1, none⟩ = some (.int .i64 d.2)
theorem K1.keep {g : Nat} {d : Dt} {w w' : World} (h : K1 g d w) (hb : Below w.heap.size w w') : K1 g d w' :=
  ⟨(hb.cell (p := ⟨g, 0, none⟩) (lt_of_cell h.1)).trans h.1, (hb.cell (p := ⟨g, 1, none⟩) (lt_of_cell h.2)).trans h.2⟩
theorem K1.l {g : Nat} {d : Dt} : ∀ w, K1 g d w → (Instr.loadAt 25 (.pointer (some ⟨g, 0, none⟩))).run Tryd.prog w = .ok (.agg #[.int .i64 d.1, .int .i64 d.2]) w := fun w h => load_dot h.1 h.2

set_option maxRecDepth 100000 in
set_option maxHeartbeats 8000000 in
theorem looks_law (v : List Dt) (a : Option Addr) (c : Nat) (r : Int) (d : Dt) (w : World) (hL : Ld w) (hx : RowD w a v) (hlx : v.length ≤ 9223372036854775807) :
    Calls Tryd.prog 3 #[.slice a v.length c, .int .i64 r, dv d] w fun e w' => e = .returned (.bool true) ∧ Below w.heap.size w w' := by
  have HLd := Lib.hid hL
  have HRa := Lib.hid hx
  have HKn := Lib.hid (fun w hL => known_any w hL)
  have hK0 : K1 w.heap.size d (w.alloc (Obj.cells #[.int .i64 d.1, .int .i64 d.2] 25)) := by refine ⟨?_, ?_⟩ <;> go_simp
  have HB := Lib.hid (bel_box w (Obj.cells #[.int .i64 d.1, .int .i64 d.2] 25))
  have HK := Lib.hid hK0
  replace HRa := Lib.hid (HRa.out.keep HB.out)
  clear hL hx hK0
  by_cases h1 : 40 < v.length
  · have hg : (40 : Int) < (v.length : Int) := by omega
    clear h1 hlx
    obtain ⟨d1, d2⟩ := d
    go_enter Tryd.func3, Tryd.ntmps3
    go_wp2_with fail
    refine (HKn.out _ (HLd.out.below HB.out)).mono ?_
    rintro e w2 ⟨rfl, hb⟩
    replace HB := bel_tr HB hb
    clear hb
    go_wp2_with fail
    go_ret
    exact ⟨rfl, HB.out⟩
  have hg : ¬ (40 : Int) < (v.length : Int) := by omega
  have H1 := Lib.hid (fun w hx => validV_any v a c w hx (by omega))
  have H2 := Lib.hid (fun w hx => validV_ref v a c w hx (by omega))
  have H3 := Lib.hid (fun w hx => get_any v r a c w hx (by omega))
  have H4 := Lib.hid (fun w hx => get_ref v r a c w hx (by omega))
  have H5 := Lib.hid (fun w hx => has_any v d a c w hx (by omega))
  have H6 := Lib.hid (fun w hx => has_ref v d a c w hx (by omega))
  clear h1 hlx
  generalize validV v = p at *
  generalize getV v r = q at *
  generalize hasV v d = s at *
  have e1 : (p == p) = true := by simp
  have e2 : (q == q) = true := by simp
  have e3 : (s == s) = true := by simp
  go_enter Tryd.func3, Tryd.ntmps3
  go_wp2_with fail
  generalize w.alloc (Obj.cells #[.int .i64 d.1, .int .i64 d.2] 25) = w1 at *
  refine Sch.wp_region_tree (K1 w.heap.size d) (.take 0 (.take 2 (.one 1 (.one 3 (.take 4 (.take 5 (.take 6 (.take 7 (.take 9 (.take 10 (.one 8 (.one 11 (.take 12 (.take 13 (.take 14 (.take 15 (.take 16 (.take 18 (.take 19 (.one 17 (.one 20 (.take 21 (.take 22 (.take 23 (.one 24 (.take 25 (.take 26 .done))))))))))))))))))))))))))) (by kernel_rfl) (by kernel_rfl) (HK.out.keep ((Below.refl _ _).drew)) ?_
  have hb : Below w1.heap.size w1 w1.drew := (Below.refl _ _).drew
  replace HRa := Lib.hid (HRa.out.keep hb)
  replace HK := Lib.hid (HK.out.keep hb)
  replace HB := bel_tr HB hb
  clear hb
  generalize w1.drew = w2 at *
  repeat (first
    | (refine tree_load _ _ _ _ _ rfl rfl rfl rfl K1.l rfl ?_; simp only [Act.put, List.setIfInBounds_toArray, List.set_cons_zero, List.set_cons_succ])
    | (refine Sch.tree_q rfl rfl (fun K hK => ?_); go_big_quiet_op; (first | refine hK _ ?_ | refine ⟨_, fun _ _ => rfl, hK _ ?_⟩); clear hK K))
  refine Sch.tree_e rfl rfl (fun K hK => ?_)
  go_wp2_with fail
  refine (H1.out _ HRa.out).mono ?_
  rintro e w3 ⟨rfl, hl⟩
  have hb := hl.bel
  clear hl
  replace HRa := Lib.hid (HRa.out.keep hb)
  replace HK := Lib.hid (HK.out.keep hb)
  replace HB := bel_tr HB hb
  clear hb
  refine hK _ _ HK.out ?_
  clear hK K
  refine Sch.tree_e rfl rfl (fun K hK => ?_)
  go_wp2_with fail
  refine (H2.out _ HRa.out).mono ?_
  rintro e w4 ⟨rfl, hl⟩
  have hb := hl.bel
  clear hl
  replace HRa := Lib.hid (HRa.out.keep hb)
  replace HK := Lib.hid (HK.out.keep hb)
  replace HB := bel_tr HB hb
  clear hb
  refine hK _ _ HK.out ?_
  clear hK K
  repeat (first
    | (refine tree_load _ _ _ _ _ rfl rfl rfl rfl K1.l rfl ?_; simp only [Act.put, List.setIfInBounds_toArray, List.set_cons_zero, List.set_cons_succ])
    | (refine Sch.tree_q rfl rfl (fun K hK => ?_); go_big_quiet_op; (first | refine hK _ ?_ | refine ⟨_, fun _ _ => rfl, hK _ ?_⟩); clear hK K))
  refine Sch.tree_e rfl rfl (fun K hK => ?_)
  go_wp2_with fail
  refine (H3.out _ HRa.out).mono ?_
  rintro e w5 ⟨rfl, hl⟩
  have hb := hl.bel
  clear hl
  replace HRa := Lib.hid (HRa.out.keep hb)
  replace HK := Lib.hid (HK.out.keep hb)
  replace HB := bel_tr HB hb
  clear hb
  refine hK _ _ HK.out ?_
  clear hK K
  refine Sch.tree_e rfl rfl (fun K hK => ?_)
  go_wp2_with fail
  refine (H4.out _ HRa.out).mono ?_
  rintro e w6 ⟨rfl, hl⟩
  have hb := hl.bel
  clear hl
  replace HRa := Lib.hid (HRa.out.keep hb)
  replace HK := Lib.hid (HK.out.keep hb)
  replace HB := bel_tr HB hb
  clear hb
  refine hK _ _ HK.out ?_
  clear hK K
  repeat (first
    | (refine tree_load _ _ _ _ _ rfl rfl rfl rfl K1.l rfl ?_; simp only [Act.put, List.setIfInBounds_toArray, List.set_cons_zero, List.set_cons_succ])
    | (refine Sch.tree_q rfl rfl (fun K hK => ?_); go_big_quiet_op; (first | refine hK _ ?_ | refine ⟨_, fun _ _ => rfl, hK _ ?_⟩); clear hK K))
  refine Sch.tree_e rfl rfl (fun K hK => ?_)
  go_wp2_with fail
  refine (H5.out _ HRa.out).mono ?_
  rintro e w7 ⟨rfl, hl⟩
  have hb := hl.bel
  clear hl
  replace HRa := Lib.hid (HRa.out.keep hb)
  replace HK := Lib.hid (HK.out.keep hb)
  replace HB := bel_tr HB hb
  clear hb
  refine hK _ _ HK.out ?_
  clear hK K
  refine Sch.tree_e rfl rfl (fun K hK => ?_)
  go_wp2_with fail
  refine (H6.out _ HRa.out).mono ?_
  rintro e w8 ⟨rfl, hl⟩
  have hb := hl.bel
  clear hl
  replace HRa := Lib.hid (HRa.out.keep hb)
  replace HK := Lib.hid (HK.out.keep hb)
  replace HB := bel_tr HB hb
  clear hb
  refine hK _ _ HK.out ?_
  clear hK K
  repeat (first
    | (refine tree_load _ _ _ _ _ rfl rfl rfl rfl K1.l rfl ?_; simp only [Act.put, List.setIfInBounds_toArray, List.set_cons_zero, List.set_cons_succ])
    | (refine Sch.tree_q rfl rfl (fun K hK => ?_); go_big_quiet_op; (first | refine hK _ ?_ | refine ⟨_, fun _ _ => rfl, hK _ ?_⟩); clear hK K))
  refine Sch.tree_e rfl rfl (fun K hK => ?_)
  go_wp2_with fail
  refine (HKn.out _ (HLd.out.below HB.out)).mono ?_
  rintro e w9 ⟨rfl, hb⟩
  replace HRa := Lib.hid (HRa.out.keep hb)
  replace HK := Lib.hid (HK.out.keep hb)
  replace HB := bel_tr HB hb
  clear hb
  refine hK _ _ HK.out ?_
  clear hK K
  repeat (first
    | (refine tree_load _ _ _ _ _ rfl rfl rfl rfl K1.l rfl ?_; simp only [Act.put, List.setIfInBounds_toArray, List.set_cons_zero, List.set_cons_succ])
    | (refine Sch.tree_q rfl rfl (fun K hK => ?_); go_big_quiet_op; (first | refine hK _ ?_ | refine ⟨_, fun _ _ => rfl, hK _ ?_⟩); clear hK K))
  refine Sch.tree_n ?_
  go_wp2_with fail
  go_ret
  exact ⟨rfl, HB.out⟩
end Go.Proofs.YtfemfmppjabdjaaDoor.E
