/-
  The law of sets.
-/
import Derived.Test.YtjdhdnlcaonnkaaDoorDLawC
namespace Go.Proofs.YtjdhdnlcaonnkaaDoor.D
set_option linter.unusedVariables false
open Go.RowKit V Go.Sort

/-- A slice of dots that may be written, if there are any. -/
def Wr (w : World) (base : Nat) (a : Option Addr) (m : List Dt) : Prop := m = [] ∨ ∃ g, a = some ⟨g, 0, none⟩ ∧ base ≤ g ∧ Rw w g m.length fun i => m[i]!
theorem Wr.bel2 {w w' : World} {base : Nat} {a : Option Addr} {m : List Dt} (h : Wr w base a m) (hb : Below w.heap.size w w') : Wr w' base a m := by
  rcases h with h | ⟨g, h1, h2, h3⟩
  · exact .inl h
  · exact .inr ⟨g, h1, h2, h3.below hb⟩
theorem Wr.row {w : World} {base : Nat} {a : Option Addr} {m : List Dt} (h : Wr w base a m) : RowD w a m := by
  rcases h with rfl | ⟨g, rfl, h2, h3⟩
  · exact .inl rfl
  · exact h3.row fun i hi => getElem!_pos m i hi
theorem Rw.put1 {w : World} {g n : Nat} {f : Nat → Dt} (h : Rw w g n f) (k : Nat) (hk : k < n) (z : Int) :
    Rw (w.setCell ⟨g, k * 2, none⟩ (.int .i64 z)) g n (fun i => if i = k then (z, (f i).2) else f i) := by
  refine ⟨by rw [size_setCell]; exact h.1, fun i hi => ?_⟩
  obtain ⟨h1, h2, h3, h4⟩ := h.2 i hi
  obtain ⟨k1, k2, -, -⟩ := h.2 k hk
  simp only [World.frozen?_setCell]
  by_cases e : i = k
  · subst e
    rw [if_pos rfl]
    exact ⟨World.cell?_setCell_same _ _ _ k1, (World.cell?_setCell_other _ _ _ _ (by simp <;> omega)).trans h2, h3, h4⟩
  · rw [if_neg e]
    exact ⟨(World.cell?_setCell_other _ _ _ _ (by simp <;> omega)).trans h1, (World.cell?_setCell_other _ _ _ _ (by simp <;> omega)).trans h2, h3, h4⟩

set_option maxRecDepth 100000 in
set_option maxHeartbeats 4000000 in
theorem sets_law (xs : List Dt) (a : Option Addr) (c : Nat) (d : Dt) (w : World) (hL : Ld w) (hx : RowD w a xs) (hna : a = none → c = 0) (hlx : xs.length ≤ 9223372036854775807) :
    Calls Tryd.prog 4 #[.slice a xs.length c, dv d] w fun e w' => e = .returned (.bool true) ∧ Below w.heap.size w w' := by
  have HLd := Lib.hid hL
  have HRa := Lib.hid hx
  have HNa := Lib.hid hna
  have HKn := Lib.hid (fun w hL => known_any w hL)
  clear hL hx hna
  by_cases h1 : 60 < xs.length
  · have hg : (60 : Int) < (xs.length : Int) := by omega
    clear h1 hlx
    go_enter Tryd.func4, Tryd.ntmps4
    go_wp2_with fail
    have hB := bel_box w (Obj.cells #[.int .i64 d.1, .int .i64 d.2] 23)
    refine (HKn.out _ (HLd.out.below hB)).mono ?_
    rintro e w2 ⟨rfl, hb⟩
    have HB := bel_tr (Lib.hid hB) hb
    clear hb hB
    go_wp2_with fail
    go_ret
    exact ⟨rfl, HB.out⟩
  have hg : ¬ (60 : Int) < (xs.length : Int) := by omega
  have HLx : Hid (xs.length ≤ 60) := by show _ ≤ _; omega
  have HLs : Hid ((setR xs).length ≤ 60) := by show _ ≤ _; have := set_len xs; omega
  have HSe := Lib.hid (fun a c w hx => set_any xs a c w hx (by omega))
  have HIs := Lib.hid (fun a c w hx => isSet_any xs a c w hx (by omega))
  have HIr := Lib.hid (fun a c w hx => isSet_ref xs a c w hx (by omega))
  have HSr := Lib.hid (fun a c w hx => set_ref xs a c w hx (by omega))
  have HHa := Lib.hid (fun a c w hx => has_any xs d a c w hx (by omega))
  have HHr := Lib.hid (fun a c w hx => has_ref xs d a c w hx (by omega))
  have HSa := Lib.hid (fun l a b c d w hx hy hl => same_true l a b c d w hx hy hl)
  have hll : ((setR xs).length : Int) ≤ 60 := by have := HLs.out; omega
  clear h1 hlx
  generalize setR xs = M at *
  generalize isSetR xs = p at *
  generalize decide (d ∈ xs) = q at *
  have hpp : (p != p) = false := by simp
  have hqq : (q != q) = false := by simp
  go_enter Tryd.func4, Tryd.ntmps4
  have hK0 : Bx (w.alloc (Obj.cells #[.int .i64 d.1, .int .i64 d.2] 23)) w.heap.size d := by refine ⟨?_, ?_⟩ <;> go_simp
  have HB := Lib.hid (bel_box w (Obj.cells #[.int .i64 d.1, .int .i64 d.2] 23))
  have HK := Lib.hid hK0
  replace HRa := Lib.hid (HRa.out.keep HB.out)
  clear hK0
  go_wp2_with (at_builtin; refine wpList_appD rfl _ _ _ rfl Tryd.underlying28 infoD _ _ rfl (OD.nil (w.alloc (Obj.cells #[.int .i64 d.1, .int .i64 d.2] 23)) (w.heap.size + 1) E) a xs c rfl HRa.out HNa.out (by have := HLx.out; simp; omega) (by simp) ?_)
  intro v1 w2 ho hg3 _
  have HOx : Hid (OD w2 (w.heap.size + 1) E v1 xs) := ho
  have hb : Below (w.alloc (Obj.cells #[.int .i64 d.1, .int .i64 d.2] 23)).heap.size (w.alloc (Obj.cells #[.int .i64 d.1, .int .i64 d.2] 23)) w2 := (Below.refl _ _).grown hg3 (Nat.le_refl _) (fun k hk => by cases hk)
  replace HRa := Lib.hid (HRa.out.keep hb)
  replace HK := Lib.hid (HK.out.keep hb)
  replace HB := bel_tr HB hb
  clear ho hg3 hb
  obtain ⟨ax, cx, rfl, hrx, hnx, -⟩ := HOx.out.row
  have HRx := Lib.hid hrx
  have HRx2 := Lib.hid hrx
  have HRa2 := HRa
  have HB2 := HB
  clear hrx hnx HOx
  go_wp2_with fail
  refine (HSe.out ax cx _ HRx.out).mono ?_
  rintro e w3 ⟨v, rfl, ⟨a1, cs, rfl, -, hwr⟩, hb⟩
  replace HRa := Lib.hid (HRa.out.keep hb)
  replace HRx := Lib.hid (HRx.out.keep hb)
  replace HK := Lib.hid (HK.out.keep hb)
  replace HB := bel_tr HB hb
  have HRw : Hid (Wr w3 w2.heap.size a1 M) := hwr
  have HBs : Hid (Below w2.heap.size w2 w3) := hb
  clear hb hwr
  go_wp2_with fail
  refine Sch.wp_region_tree (K1 w.heap.size d) (.take 0 (.take 2 (.one 1 (.one 3 (.take 4 (.take 5 (.take 6 (.take 7 (.one 8 (.one 9 (.take 10 (.take 11 (.take 12 (.take 13 (.take 14 (.take 16 (.take 17 (.one 15 (.one 18 (.take 19 (.take 20 .done))))))))))))))))))))) (by kernel_rfl) (by kernel_rfl) (HK.out.keep ((Below.refl _ _).drew)) ?_
  have hb : Below w3.heap.size w3 w3.drew := (Below.refl _ _).drew
  replace HRa := Lib.hid (HRa.out.keep hb)
  replace HRx := Lib.hid (HRx.out.keep hb)
  replace HK := Lib.hid (HK.out.keep hb)
  replace HRw := Lib.hid (HRw.out.bel2 hb)
  replace HBs := bel_tr HBs hb
  replace HB := bel_tr HB hb
  clear hb
  generalize w3.drew = w5 at *
  repeat (first
    | (refine Sch.tree_q rfl rfl (fun K hK => ?_); go_big_quiet_op; (first | refine hK _ ?_ | refine ⟨_, fun _ _ => rfl, hK _ ?_⟩); clear hK K)
    | (refine tree_load _ _ _ _ _ rfl rfl rfl rfl K1.l rfl ?_; simp only [Act.put, List.setIfInBounds_toArray, List.set_cons_zero, List.set_cons_succ]))
  refine Sch.tree_e rfl rfl (fun K hK => ?_)
  go_wp2_with fail
  refine (HIs.out ax cx _ HRx.out).mono ?_
  rintro e w6 ⟨rfl, hb⟩
  replace HRa := Lib.hid (HRa.out.keep hb)
  replace HRx := Lib.hid (HRx.out.keep hb)
  replace HK := Lib.hid (HK.out.keep hb)
  replace HRw := Lib.hid (HRw.out.bel2 hb)
  replace HBs := bel_tr HBs hb
  replace HB := bel_tr HB hb
  clear hb
  refine hK _ _ HK.out ?_
  clear hK K
  refine Sch.tree_e rfl rfl (fun K hK => ?_)
  go_wp2_with fail
  refine (HIr.out a c _ HRa.out).mono ?_
  rintro e w7 ⟨rfl, hb⟩
  replace HRa := Lib.hid (HRa.out.keep hb)
  replace HRx := Lib.hid (HRx.out.keep hb)
  replace HK := Lib.hid (HK.out.keep hb)
  replace HRw := Lib.hid (HRw.out.bel2 hb)
  replace HBs := bel_tr HBs hb
  replace HB := bel_tr HB hb
  clear hb
  refine hK _ _ HK.out ?_
  clear hK K
  repeat (first
    | (refine Sch.tree_q rfl rfl (fun K hK => ?_); go_big_quiet_op; (first | refine hK _ ?_ | refine ⟨_, fun _ _ => rfl, hK _ ?_⟩); clear hK K)
    | (refine tree_load _ _ _ _ _ rfl rfl rfl rfl K1.l rfl ?_; simp only [Act.put, List.setIfInBounds_toArray, List.set_cons_zero, List.set_cons_succ]))
  refine Sch.tree_e rfl rfl (fun K hK => ?_)
  go_wp2_with fail
  refine (HSr.out a c _ HRa.out).mono ?_
  rintro e w8 ⟨v, rfl, ho, hb⟩
  replace HRa := Lib.hid (HRa.out.keep hb)
  replace HRx := Lib.hid (HRx.out.keep hb)
  replace HK := Lib.hid (HK.out.keep hb)
  replace HRw := Lib.hid (HRw.out.bel2 hb)
  replace HBs := bel_tr HBs hb
  obtain ⟨a2, c2, rfl, -, hr⟩ := ho.sv
  have HS2 := Lib.hid hr
  clear ho hr
  replace HB := bel_tr HB hb
  clear hb
  refine hK _ _ HK.out ?_
  clear hK K
  refine Sch.tree_e rfl rfl (fun K hK => ?_)
  go_wp2_with fail
  refine (HSa.out M a1 a2 cs c2 _ HRw.out.row HS2.out (by have := HLs.out; omega)).mono ?_
  rintro e w9 ⟨rfl, hb⟩
  replace HRa := Lib.hid (HRa.out.keep hb)
  replace HRx := Lib.hid (HRx.out.keep hb)
  replace HK := Lib.hid (HK.out.keep hb)
  replace HS2 := Lib.hid (HS2.out.keep hb)
  replace HRw := Lib.hid (HRw.out.bel2 hb)
  replace HBs := bel_tr HBs hb
  replace HB := bel_tr HB hb
  clear hb
  refine hK _ _ HK.out ?_
  clear hK K
  clear HS2
  repeat (first
    | (refine Sch.tree_q rfl rfl (fun K hK => ?_); go_big_quiet_op; (first | refine hK _ ?_ | refine ⟨_, fun _ _ => rfl, hK _ ?_⟩); clear hK K)
    | (refine tree_load _ _ _ _ _ rfl rfl rfl rfl K1.l rfl ?_; simp only [Act.put, List.setIfInBounds_toArray, List.set_cons_zero, List.set_cons_succ]))
  refine Sch.tree_e rfl rfl (fun K hK => ?_)
  go_wp2_with fail
  refine (HHa.out ax cx _ HRx.out).mono ?_
  rintro e w10 ⟨rfl, hb⟩
  replace HRa := Lib.hid (HRa.out.keep hb)
  replace HRx := Lib.hid (HRx.out.keep hb)
  replace HK := Lib.hid (HK.out.keep hb)
  replace HRw := Lib.hid (HRw.out.bel2 hb)
  replace HBs := bel_tr HBs hb
  replace HB := bel_tr HB hb
  clear hb
  refine hK _ _ HK.out ?_
  clear hK K
  refine Sch.tree_e rfl rfl (fun K hK => ?_)
  go_wp2_with fail
  refine (HHr.out a c _ HRa.out).mono ?_
  rintro e w11 ⟨rfl, hb⟩
  replace HRa := Lib.hid (HRa.out.keep hb)
  replace HRx := Lib.hid (HRx.out.keep hb)
  replace HK := Lib.hid (HK.out.keep hb)
  replace HRw := Lib.hid (HRw.out.bel2 hb)
  replace HBs := bel_tr HBs hb
  replace HB := bel_tr HB hb
  clear hb
  refine hK _ _ HK.out ?_
  clear hK K
  repeat (first
    | (refine Sch.tree_q rfl rfl (fun K hK => ?_); go_big_quiet_op; (first | refine hK _ ?_ | refine ⟨_, fun _ _ => rfl, hK _ ?_⟩); clear hK K)
    | (refine tree_load _ _ _ _ _ rfl rfl rfl rfl K1.l rfl ?_; simp only [Act.put, List.setIfInBounds_toArray, List.set_cons_zero, List.set_cons_succ]))
  refine Sch.tree_n ?_
  go_wp2_with fail
  go_loopw [39] (fun i wr => ∃ k : Nat, k ≤ M.length ∧ i = .int .i64 (k : Int) ∧ Hid (Below w2.heap.size w2 wr) ∧ Hid (M = [] ∨ ∃ g f, a1 = some ⟨g, 0, none⟩ ∧ w2.heap.size ≤ g ∧ Rw wr g M.length f)) (fun i _ => M.length - (intOf i).toNat)
  case atStart =>
    refine ⟨0, Nat.zero_le _, rfl, HBs, ?_⟩
    rcases HRw.out with h | ⟨g, h1, h2, h3⟩
    · exact .inl h
    · exact .inr ⟨g, _, h1, h2, h3⟩
  case round =>
    obtain ⟨k, hk, rfl, hh, hw⟩ := hrel
    by_cases hlt : k < M.length
    · have hi1 : (k : Int) < (M.length : Int) := by omega
      rcases hw.out with h | ⟨g, f, rfl, hgb, hrw⟩
      · rw [h] at hlt; simp at hlt
      · obtain ⟨c0, c1, f0, f1⟩ := hrw.2 k hlt
        have hix := ix0 g M.length cs k k rfl hlt
        have HRk := Lib.hid (fun z => Rw.put1 hrw k hlt z)
        have Hg := Lib.hid hgb
        clear hw hrw hgb HRw
        go_wp2_with fail
        go_roundw
        case rel => exact ⟨k + 1, by omega, by go_num, hh.out.setCell (p := ⟨g, k * 2, none⟩) Hg.out _, .inr ⟨g, _, rfl, Hg.out, HRk.out _⟩⟩
        case measure => simp [intOf]; omega
    · have hi1 : ¬ (k : Int) < (M.length : Int) := by omega
      have HRa3 := Lib.hid (HRa2.out.keep hh.out)
      have HRx3 := Lib.hid (HRx2.out.keep hh.out)
      have HB3 : Hid (Below w.heap.size w wr) := bel_tr HB2 hh.out
      clear hw
      go_wp2_with fail
      refine (HSa.out xs ax a cx c _ HRx3.out HRa3.out (by have := HLx.out; omega)).mono ?_
      rintro e wp ⟨rfl, hb⟩
      replace HB3 := bel_tr HB3 hb
      clear hb
      go_wp2_with fail
      refine (HKn.out _ (HLd.out.below HB3.out)).mono ?_
      rintro e wq ⟨rfl, hb⟩
      replace HB3 := bel_tr HB3 hb
      clear hb
      go_wp2_with fail
      go_ret
      exact ⟨rfl, HB3.out⟩
end Go.Proofs.YtjdhdnlcaonnkaaDoor.D
