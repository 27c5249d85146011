/-
  NodeHolds.
-/
import Derived.Test.YtmmcnpcijeahcabGreatDoorNKnown
import Derived.Deep.CutRange
namespace Go.Proofs.YtmmcnpcijeahcabGreatDoor.Nd
set_option linter.unusedVariables false
open Go.RowKit V Go.Sort D
attribute [local irreducible] Sch.heldN Sch.stepV Sch.stepE

/-- Three boxes with a node each; and one box more. -/
def N3 (g : Nat) (a b c : Nt) (w : World) : Prop := Nb w g a ∧ Nb w (g + 1) b ∧ Nb w (g + 1 + 1) c
theorem N3.keep {g : Nat} {a b c : Nt} {w w' : World} (h : N3 g a b c w) (hb : Below w.heap.size w w') : N3 g a b c w' := ⟨h.1.keep hb, h.2.1.keep hb, h.2.2.keep hb⟩
theorem N3.new (a b c : Nt) (w : World) : N3 w.heap.size a b c (((w.alloc (.cells (nc a) 25)).alloc (.cells (nc b) 25)).alloc (.cells (nc c) 25)) := by
  have h := Nb.new ((w.alloc (.cells (nc a) 25)).alloc (.cells (nc b) 25)) c
  rw [show ((w.alloc (.cells (nc a) 25)).alloc (.cells (nc b) 25)).heap.size = w.heap.size + 1 + 1 by simp] at h
  have k := (N2.new a b w).keep (bel_box _ (.cells (nc c) 25))
  exact ⟨k.1, k.2, h⟩
def N4 (g h : Nat) (a b c x : Nt) (w : World) : Prop := N3 g a b c w ∧ Nb w h x
theorem N4.keep {g h : Nat} {a b c x : Nt} {w w' : World} (k : N4 g h a b c x w) (hb : Below w.heap.size w w') : N4 g h a b c x w' := ⟨k.1.keep hb, k.2.keep hb⟩
section
variable {g h : Nat} {a b c x : Nt}
theorem N3.la : ∀ w, N3 g a b c w → (Instr.loadAt 25 (.pointer (some ⟨g, 0, none⟩))).run Tryz.prog w = .ok (nv a) w := fun w k => k.1.load
theorem N3.lb : ∀ w, N3 g a b c w → (Instr.loadAt 25 (.pointer (some ⟨g + 1, 0, none⟩))).run Tryz.prog w = .ok (nv b) w := fun w k => k.2.1.load
theorem N4.la : ∀ w, N4 g h a b c x w → (Instr.loadAt 25 (.pointer (some ⟨g, 0, none⟩))).run Tryz.prog w = .ok (nv a) w := fun w k => k.1.1.load
theorem N4.lb : ∀ w, N4 g h a b c x w → (Instr.loadAt 25 (.pointer (some ⟨g + 1, 0, none⟩))).run Tryz.prog w = .ok (nv b) w := fun w k => k.1.2.1.load
theorem N4.lx : ∀ w, N4 g h a b c x w → (Instr.loadAt 25 (.pointer (some ⟨h, 0, none⟩))).run Tryz.prog w = .ok (nv x) w := fun w k => k.2.load
end
theorem bne_dec (x y : Int) : (x != y) = !decide (x = y) := by by_cases h : x = y <;> simp [h]
/-- What Text of a node says. -/
def TxtS (a : Nt) (S : ByteArray) (q : Int) : Prop := (validN a = true ∧ S = ⟨(txtN a).toArray⟩ ∧ q = 0) ∨ (validN a = false ∧ q = 2)
theorem txtS_of (a : Nt) : TxtS a ⟨(txtB a).1.toArray⟩ (txtB a).2 := by
  unfold TxtS txtB
  rcases validN a with _ | _
  · exact .inr ⟨rfl, rfl⟩
  · exact .inl ⟨rfl, rfl, rfl⟩

set_option maxRecDepth 100000 in
set_option maxHeartbeats 16000000 in
theorem holds_law (a b c : Nt) (w : World) (hL : Ln w) : Calls Tryz.prog 7 #[nv a, nv b, nv c] w fun e w' => e = .returned (.bool true) ∧ Below w.heap.size w w' := by
  have HL := Lib.hid hL
  have HKn := Lib.hid (fun w hL => known_any w hL)
  have HK := Lib.hid (N3.new a b c w)
  have HB : Hid (Below w.heap.size w (((w.alloc (.cells (nc a) 25)).alloc (.cells (nc b) 25)).alloc (.cells (nc c) 25))) := bel_tr (bel_two w a b) (bel_box _ _)
  have Bab := Lib.hid (fun w => before_any a b w)
  have Bba := Lib.hid (fun w => before_any b a w)
  have Bbc := Lib.hid (fun w => before_any b c w)
  have Bac := Lib.hid (fun w => before_any a c w)
  have hone := before_one a b
  have HAs : Hid (¬ (beforeN a b = true ∧ beforeN b a = true)) := fun h => by have := before_asymm h.1; rw [h.2] at this; cases this
  have HTr : Hid (beforeN a b = true → beforeN b c = true → beforeN a c = true) := fun h k => before_trans h k
  have HTx := Lib.hid (fun w hL => textN_any a w hL)
  have HTs := Lib.hid (txtS_of a)
  have HVa := Lib.hid (fun w => validN_any a w)
  have HPa := Lib.hid (fun (h : validN a = true) w hL => parses_yes (txtN a) a (valid_vn.1 h) rfl w hL (by have := txtN_len (valid_vn.1 h); omega))
  have HSe := Lib.hid (fun (h : validN a = true) w => merges_any a a a 0 (merge_self h) w)
  have HM1 := Lib.hid (fun w => merge_any a b w)
  have HM2 := Lib.hid (fun w => merge_any b c w)
  have HM3 := Lib.hid (fun w => merge_any a c w)
  have HMc := Lib.hid (fun w => merges_any b a (mergeN a b).1 (mergeN a b).2 (merge_comm b a) w)
  have HDx := Lib.hid (fun w => (dead_any (mergeN a b).1 w).mono fun e w' h => And.intro h.1 h.2.bel)
  have HDa := Lib.hid (fun w => (dead_any a w).mono fun e w' h => And.intro h.1 h.2.bel)
  have HDb := Lib.hid (fun w => (dead_any b w).mono fun e w' h => And.intro h.1 h.2.bel)
  have HVx := Lib.hid (fun w => validN_any (mergeN a b).1 w)
  have HOk := Lib.hid (fun h => @merge_dead a b h)
  have HM4 := Lib.hid (fun w => merge_any (mergeN a b).1 c w)
  have HAss := Lib.hid (fun h1 h2 h3 => @merge_assoc a b c h1 h2 h3)
  have HMa := Lib.hid (fun x q h w => merges_any a (mergeN b c).1 x q h w)
  have hT0 : (some false == some false) = true := rfl
  have hT1 : (some true == some true) = true := rfl
  have hF0 : (some true == some false) = false := rfl
  have hF1 : (some false == some true) = false := rfl
  have hN0 : ((none : Option Bool) == some false) = false := rfl
  have hN1 : ((none : Option Bool) == some true) = false := rfl
  have hnd := fun w => neq_dot a.1 b.1 w
  have HSz : Hid ((((w.alloc (.cells (nc a) 25)).alloc (.cells (nc b) 25)).alloc (.cells (nc c) 25)).heap.size = w.heap.size + 1 + 1 + 1) := by show _ = _; simp
  generalize mergeN a b = M1 at *
  generalize mergeN b c = M2 at *
  generalize mergeN a c = M3 at *
  generalize beforeN a b = p at *
  generalize beforeN b a = q at *
  generalize beforeN b c = r at *
  generalize beforeN a c = s at *
  generalize decide (a.1 = b.1) = dd at *
  generalize deadN a = da at *
  generalize deadN b = db at *
  obtain ⟨tt, htt⟩ : ∃ x, (a.2.2.1 != b.2.2.1) = x := ⟨_, rfl⟩
  have hone2 : (p || q) = (tt || !dd) := by rw [hone, ← htt, bne_dec]
  have HOne := Lib.hid hone2
  clear hL hone hone2
  generalize hS1 : (⟨(txtB a).1.toArray⟩ : ByteArray) = S1 at *
  generalize (txtB a).2 = q1 at *
  clear hS1
  go_enter Tryz.func7, Tryz.ntmps7
  go_wp2_with fail
  generalize ((w.alloc (.cells (nc a) 25)).alloc (.cells (nc b) 25)).alloc (.cells (nc c) 25) = w1 at *
  have hb : Below w1.heap.size w1 w1.drew := (Below.refl _ _).drew
  replace HK := Lib.hid (HK.out.keep hb)
  replace HB := bel_tr HB hb
  clear hb
  refine Sch.wp_region_tn (N3 w.heap.size a b c) (.val 0 (.val 1 (.val 3 (.val 4 (.one 2 (.one 5 (.val 6 (.val 7 .done)))))))) (by kernel_rfl) (by kernel_rfl) HK.out ?_
  generalize w1.drew = w2 at *
  refine Sch.tn_load _ _ _ _ _ rfl rfl rfl rfl (by exact N3.la) rfl ?_
  simp only [Act.put, List.setIfInBounds_toArray, List.set_cons_zero, List.set_cons_succ]
  refine Sch.tn_load _ _ _ _ _ rfl rfl rfl rfl (by exact N3.lb) rfl ?_
  simp only [Act.put, List.setIfInBounds_toArray, List.set_cons_zero, List.set_cons_succ]
  refine Sch.tn_load _ _ _ _ _ rfl rfl rfl rfl (by exact N3.lb) rfl ?_
  simp only [Act.put, List.setIfInBounds_toArray, List.set_cons_zero, List.set_cons_succ]
  refine Sch.tn_load _ _ _ _ _ rfl rfl rfl rfl (by exact N3.la) rfl ?_
  simp only [Act.put, List.setIfInBounds_toArray, List.set_cons_zero, List.set_cons_succ]
  refine Sch.tn_e rfl rfl (fun K hK => ?_)
  go_wp2_with fail
  refine (Bab.out _).mono ?_
  rintro e w3 ⟨rfl, hb⟩
  replace HK := Lib.hid (HK.out.keep hb)
  replace HB := bel_tr HB hb
  clear hb
  refine hK _ _ HK.out ?_
  clear hK K
  refine Sch.tn_e rfl rfl (fun K hK => ?_)
  go_wp2_with fail
  refine (Bba.out _).mono ?_
  rintro e w4 ⟨rfl, hb⟩
  replace HK := Lib.hid (HK.out.keep hb)
  replace HB := bel_tr HB hb
  clear hb
  refine hK _ _ HK.out ?_
  clear hK K
  refine Sch.tn_q rfl rfl rfl (fun K hK => ?_)
  go_big_quiet_op
  first | refine hK _ ?_ | refine ⟨_, fun _ _ => rfl, hK _ ?_⟩
  clear hK K
  refine Sch.tn_q rfl rfl rfl (fun K hK => ?_)
  go_big_quiet_op
  first | refine hK _ ?_ | refine ⟨_, fun _ _ => rfl, hK _ ?_⟩
  clear hK K
  refine Sch.tn_n ?_
  go_upto_region 2 with fail
  go_cut [45] from 23 to 45 (fun x wx => x = .bool false ∧ Hid (N3 w.heap.size a b c wx) ∧ Hid (Below w.heap.size w wx))
  case first =>
    obtain ⟨⟨a0, a1, a2, a3, a4, a5⟩, ⟨b0, b1, b2, b3, b4, b5⟩, c0, c1, c2, c3, c4, c5⟩ := HK.out
    rcases p with _ | _
    · rcases q with _ | _
      · have hdd : dd = true ∧ tt = false := by have := HOne.out; revert this; cases dd <;> cases tt <;> simp
        obtain ⟨rfl, rfl⟩ := hdd
        go_wp2_with fail
        go_meet
        case rel => exact ⟨rfl, HK, HB⟩
      · rcases tt with _ | _
        · have hdd : dd = false := by have := HOne.out; revert this; cases dd <;> simp
          subst hdd
          go_wp2_with fail
          go_meet
          case rel => exact ⟨rfl, HK, HB⟩
        · go_wp2_with fail
          go_meet
          case rel => exact ⟨rfl, HK, HB⟩
    · rcases q with _ | _
      · rcases tt with _ | _
        · have hdd : dd = false := by have := HOne.out; revert this; cases dd <;> simp
          subst hdd
          go_wp2_with fail
          go_meet
          case rel => exact ⟨rfl, HK, HB⟩
        · go_wp2_with fail
          go_meet
          case rel => exact ⟨rfl, HK, HB⟩
      · exact absurd ⟨rfl, rfl⟩ HAs.out
  case rest =>
    obtain ⟨rfl, HK, HB⟩ := hcut
    clear htt HOne HAs Bba hnd
    generalize wc = w5 at *
    go_upto_region 4 with fail
    go_cut [59] from 46 to 59 (fun x wx => x = .bool false ∧ Hid (N3 w.heap.size a b c wx) ∧ Hid (Below w.heap.size w wx))
    case first =>
      obtain ⟨⟨a0, a1, a2, a3, a4, a5⟩, ⟨b0, b1, b2, b3, b4, b5⟩, c0, c1, c2, c3, c4, c5⟩ := HK.out
      go_wp2_with fail
      refine (Bab.out _).mono ?_
      rintro e w6 ⟨rfl, hb⟩
      clear a0 a1 a2 a3 a4 a5 b0 b1 b2 b3 b4 b5 c0 c1 c2 c3 c4 c5
      replace HK := Lib.hid (HK.out.keep hb)
      replace HB := bel_tr HB hb
      clear hb
      obtain ⟨⟨a0, a1, a2, a3, a4, a5⟩, ⟨b0, b1, b2, b3, b4, b5⟩, c0, c1, c2, c3, c4, c5⟩ := HK.out
      rcases p with _ | _
      · go_wp2_with fail
        go_meet
        case rel => exact ⟨rfl, HK, HB⟩
      · go_wp2_with fail
        refine (Bbc.out _).mono ?_
        rintro e w7 ⟨rfl, hb⟩
        clear a0 a1 a2 a3 a4 a5 b0 b1 b2 b3 b4 b5 c0 c1 c2 c3 c4 c5
        replace HK := Lib.hid (HK.out.keep hb)
        replace HB := bel_tr HB hb
        clear hb
        obtain ⟨⟨a0, a1, a2, a3, a4, a5⟩, ⟨b0, b1, b2, b3, b4, b5⟩, c0, c1, c2, c3, c4, c5⟩ := HK.out
        rcases r with _ | _
        · go_wp2_with fail
          go_meet
          case rel => exact ⟨rfl, HK, HB⟩
        · have hs := HTr.out (by first | rfl | trivial) (by first | rfl | trivial)
          subst hs
          go_wp2_with fail
          refine (Bac.out _).mono ?_
          rintro e w8 ⟨rfl, hb⟩
          clear a0 a1 a2 a3 a4 a5 b0 b1 b2 b3 b4 b5 c0 c1 c2 c3 c4 c5
          replace HK := Lib.hid (HK.out.keep hb)
          replace HB := bel_tr HB hb
          clear hb
          obtain ⟨⟨a0, a1, a2, a3, a4, a5⟩, ⟨b0, b1, b2, b3, b4, b5⟩, c0, c1, c2, c3, c4, c5⟩ := HK.out
          go_wp2_with fail
          go_meet
          case rel => exact ⟨rfl, HK, HB⟩
    case rest =>
      obtain ⟨rfl, HK, HB⟩ := hcut
      clear HTr Bab Bbc Bac
      generalize wc = w6 at *
      obtain ⟨⟨a0, a1, a2, a3, a4, a5⟩, ⟨b0, b1, b2, b3, b4, b5⟩, c0, c1, c2, c3, c4, c5⟩ := HK.out
      go_wp2_with fail
      refine (HTx.out _ (HL.out.below HB.out)).mono ?_
      rintro e w7 ⟨rfl, hb⟩
      clear a0 a1 a2 a3 a4 a5 b0 b1 b2 b3 b4 b5 c0 c1 c2 c3 c4 c5
      replace HK := Lib.hid (HK.out.keep hb)
      replace HB := bel_tr HB hb
      clear hb
      go_upto_region 7 with fail
      go_cut [86] from 65 to 86 (fun x wx => x = .bool false ∧ Hid (N3 w.heap.size a b c wx) ∧ Hid (Below w.heap.size w wx))
      case first =>
        obtain ⟨⟨a0, a1, a2, a3, a4, a5⟩, ⟨b0, b1, b2, b3, b4, b5⟩, c0, c1, c2, c3, c4, c5⟩ := HK.out
        rcases HTs.out with ⟨hv, rfl, rfl⟩ | ⟨hv, rfl⟩
        · rw [hv] at HVa
          have HPb := Lib.hid (HPa.out hv)
          have HSf := Lib.hid (HSe.out hv)
          generalize (⟨(txtN a).toArray⟩ : ByteArray) = S1 at *
          go_wp2_with fail
          refine (HVa.out _).mono ?_
          rintro e w8 ⟨rfl, hb⟩
          clear a0 a1 a2 a3 a4 a5 b0 b1 b2 b3 b4 b5 c0 c1 c2 c3 c4 c5
          replace HK := Lib.hid (HK.out.keep hb)
          replace HB := bel_tr HB hb
          clear hb
          obtain ⟨⟨a0, a1, a2, a3, a4, a5⟩, ⟨b0, b1, b2, b3, b4, b5⟩, c0, c1, c2, c3, c4, c5⟩ := HK.out
          go_wp2_with fail
          refine (HPb.out _ (HL.out.below HB.out)).mono ?_
          rintro e w9 ⟨rfl, hb⟩
          clear a0 a1 a2 a3 a4 a5 b0 b1 b2 b3 b4 b5 c0 c1 c2 c3 c4 c5
          replace HK := Lib.hid (HK.out.keep hb)
          replace HB := bel_tr HB hb
          clear hb
          obtain ⟨⟨a0, a1, a2, a3, a4, a5⟩, ⟨b0, b1, b2, b3, b4, b5⟩, c0, c1, c2, c3, c4, c5⟩ := HK.out
          go_wp2_with fail
          refine (HSf.out _).mono ?_
          rintro e w10 ⟨rfl, hb⟩
          clear a0 a1 a2 a3 a4 a5 b0 b1 b2 b3 b4 b5 c0 c1 c2 c3 c4 c5
          replace HK := Lib.hid (HK.out.keep hb)
          replace HB := bel_tr HB hb
          clear hb
          obtain ⟨⟨a0, a1, a2, a3, a4, a5⟩, ⟨b0, b1, b2, b3, b4, b5⟩, c0, c1, c2, c3, c4, c5⟩ := HK.out
          go_wp2_with fail
          go_meet
          case rel => exact ⟨rfl, HK, HB⟩
        · rw [hv] at HVa
          go_wp2_with fail
          refine (HVa.out _).mono ?_
          rintro e w11 ⟨rfl, hb⟩
          clear a0 a1 a2 a3 a4 a5 b0 b1 b2 b3 b4 b5 c0 c1 c2 c3 c4 c5
          replace HK := Lib.hid (HK.out.keep hb)
          replace HB := bel_tr HB hb
          clear hb
          obtain ⟨⟨a0, a1, a2, a3, a4, a5⟩, ⟨b0, b1, b2, b3, b4, b5⟩, c0, c1, c2, c3, c4, c5⟩ := HK.out
          go_wp2_with fail
          go_meet
          case rel => exact ⟨rfl, HK, HB⟩
      case rest =>
        obtain ⟨rfl, HK, HB⟩ := hcut
        clear HTx HTs HVa HPa HSe
        generalize wc = w8 at *
        obtain ⟨x1, k1⟩ := M1
        obtain ⟨x2, k2⟩ := M2
        obtain ⟨x3, k3⟩ := M3
        obtain ⟨⟨a0, a1, a2, a3, a4, a5⟩, ⟨b0, b1, b2, b3, b4, b5⟩, c0, c1, c2, c3, c4, c5⟩ := HK.out
        go_wp2_with fail
        refine (HM1.out _).mono ?_
        rintro e w9 ⟨rfl, hb⟩
        clear a0 a1 a2 a3 a4 a5 b0 b1 b2 b3 b4 b5 c0 c1 c2 c3 c4 c5
        replace HK := Lib.hid (HK.out.keep hb)
        replace HB := bel_tr HB hb
        clear hb
        have HX1 := Lib.hid (Nb.new w9 x1)
        have hb := bel_box w9 (.cells (nc x1) 25)
        replace HK := Lib.hid (HK.out.keep hb)
        replace HB := bel_tr HB hb
        clear hb
        obtain ⟨⟨a0, a1, a2, a3, a4, a5⟩, ⟨b0, b1, b2, b3, b4, b5⟩, c0, c1, c2, c3, c4, c5⟩ := HK.out
        go_wp2_with fail
        generalize w9.alloc (.cells (nc x1) 25) = v1 at *
        generalize w9.heap.size = g1 at *
        refine (HM2.out _).mono ?_
        rintro e w10 ⟨rfl, hb⟩
        clear a0 a1 a2 a3 a4 a5 b0 b1 b2 b3 b4 b5 c0 c1 c2 c3 c4 c5
        replace HK := Lib.hid (HK.out.keep hb)
        replace HX1 := Lib.hid (HX1.out.keep hb)
        replace HB := bel_tr HB hb
        clear hb
        have HX2 := Lib.hid (Nb.new w10 x2)
        have hb := bel_box w10 (.cells (nc x2) 25)
        replace HK := Lib.hid (HK.out.keep hb)
        replace HX1 := Lib.hid (HX1.out.keep hb)
        replace HB := bel_tr HB hb
        clear hb
        obtain ⟨⟨a0, a1, a2, a3, a4, a5⟩, ⟨b0, b1, b2, b3, b4, b5⟩, c0, c1, c2, c3, c4, c5⟩ := HK.out
        go_wp2_with fail
        generalize w10.alloc (.cells (nc x2) 25) = v2 at *
        generalize w10.heap.size = g2 at *
        refine (HM3.out _).mono ?_
        rintro e w11 ⟨rfl, hb⟩
        clear a0 a1 a2 a3 a4 a5 b0 b1 b2 b3 b4 b5 c0 c1 c2 c3 c4 c5
        replace HK := Lib.hid (HK.out.keep hb)
        replace HX1 := Lib.hid (HX1.out.keep hb)
        replace HX2 := Lib.hid (HX2.out.keep hb)
        replace HB := bel_tr HB hb
        clear hb
        have HX3 := Lib.hid (Nb.new w11 x3)
        have hb := bel_box w11 (.cells (nc x3) 25)
        replace HK := Lib.hid (HK.out.keep hb)
        replace HX1 := Lib.hid (HX1.out.keep hb)
        replace HX2 := Lib.hid (HX2.out.keep hb)
        replace HB := bel_tr HB hb
        clear hb
        go_upto_region 12 with fail
        generalize w11.alloc (.cells (nc x3) 25) = v3 at *
        generalize w11.heap.size = g3 at *
        clear HX3 HM1 HM2 HM3
        go_cut [130] from 105 to 130 (fun x wx => x = .bool false ∧ Hid (N3 w.heap.size a b c wx) ∧ Hid (Nb wx g1 x1) ∧ Hid (Nb wx g2 x2) ∧ Hid (Below w.heap.size w wx))
        case first =>
          have HN : Hid (N4 w.heap.size g1 a b c x1 v3) := ⟨HK.out, HX1.out⟩
          have hb : Below v3.heap.size v3 v3.drew := (Below.refl _ _).drew
          replace HN := Lib.hid (HN.out.keep hb)
          replace HX2 := Lib.hid (HX2.out.keep hb)
          replace HB := bel_tr HB hb
          clear hb
          refine Sch.wp_region_tn (N4 w.heap.size g1 a b c x1) (.val 0 (.val 1 (.val 2 (.val 3 (.one 4 (.val 5 (.val 6 (.val 7 (.val 8 (.val 9 (.val 10 (.val 12 (.one 11 (.one 13 (.val 14 (.val 15 (.one 16 (.val 17 (.val 18 (.val 19 (.val 20 (.one 21 (.val 22 (.val 23 (.val 24 (.val 25 .done)))))))))))))))))))))))))) (by kernel_rfl) (by kernel_rfl) HN.out ?_
          generalize v3.drew = v4 at *
          refine Sch.tn_load _ _ _ _ _ rfl rfl rfl rfl (by exact N4.lb) rfl ?_
          simp only [Act.put, List.setIfInBounds_toArray, List.set_cons_zero, List.set_cons_succ]
          refine Sch.tn_load _ _ _ _ _ rfl rfl rfl rfl (by exact N4.la) rfl ?_
          simp only [Act.put, List.setIfInBounds_toArray, List.set_cons_zero, List.set_cons_succ]
          refine Sch.tn_load _ _ _ _ _ rfl rfl rfl rfl (by exact N4.lx) rfl ?_
          simp only [Act.put, List.setIfInBounds_toArray, List.set_cons_zero, List.set_cons_succ]
          refine Sch.tn_q rfl rfl rfl (fun K hK => ?_)
          go_big_quiet_op
          first | refine hK _ ?_ | refine ⟨_, fun _ _ => rfl, hK _ ?_⟩
          clear hK K
          refine Sch.tn_e rfl rfl (fun K hK => ?_)
          go_wp2_with fail
          refine (HMc.out _).mono ?_
          rintro e w21 ⟨rfl, hb⟩
          replace HN := Lib.hid (HN.out.keep hb)
          replace HX2 := Lib.hid (HX2.out.keep hb)
          replace HB := bel_tr HB hb
          clear hb
          refine hK _ _ HN.out ?_
          clear hK K
          refine Sch.tn_q rfl rfl rfl (fun K hK => ?_)
          go_big_quiet_op
          first | refine hK _ ?_ | refine ⟨_, fun _ _ => rfl, hK _ ?_⟩
          clear hK K
          refine Sch.tn_q rfl rfl rfl (fun K hK => ?_)
          go_big_quiet_op
          first | refine hK _ ?_ | refine ⟨_, fun _ _ => rfl, hK _ ?_⟩
          clear hK K
          refine Sch.tn_q rfl rfl hT0 (fun K hK => ?_)
          go_big_quiet_op
          first | refine hK _ ?_ | refine ⟨_, fun _ _ => rfl, hK _ ?_⟩
          clear hK K
          by_cases hk : k1 = 0
          · subst hk
            have hok := HOk.out rfl
            have HOk2 := Lib.hid hok.1
            have HVy := HVx
            rw [hok.2] at HVy
            clear hok HOk
            refine Sch.tn_q rfl rfl hT0 (fun K hK => ?_)
            go_big_quiet_op
            first | refine hK _ ?_ | refine ⟨_, fun _ _ => rfl, hK _ ?_⟩
            clear hK K
            refine Sch.tn_q rfl rfl hT0 (fun K hK => ?_)
            go_big_quiet_op
            first | refine hK _ ?_ | refine ⟨_, fun _ _ => rfl, hK _ ?_⟩
            clear hK K
            refine Sch.tn_load _ _ _ _ _ rfl rfl hT1 rfl (by exact N4.lx) rfl ?_
            simp only [Act.put, List.setIfInBounds_toArray, List.set_cons_zero, List.set_cons_succ]
            refine Sch.tn_load _ _ _ _ _ rfl rfl hT1 rfl (by exact N4.la) rfl ?_
            simp only [Act.put, List.setIfInBounds_toArray, List.set_cons_zero, List.set_cons_succ]
            rw [HOk2.out] at HDx
            refine Sch.tn_e rfl hT1 (fun K hK => ?_)
            go_wp2_with fail
            refine (HDx.out _).mono ?_
            rintro e w22 ⟨rfl, hb⟩
            replace HN := Lib.hid (HN.out.keep hb)
            replace HX2 := Lib.hid (HX2.out.keep hb)
            replace HB := bel_tr HB hb
            clear hb
            refine hK _ _ HN.out ?_
            clear hK K
            refine Sch.tn_e rfl hT1 (fun K hK => ?_)
            go_wp2_with fail
            refine (HDa.out _).mono ?_
            rintro e w23 ⟨rfl, hb⟩
            replace HN := Lib.hid (HN.out.keep hb)
            replace HX2 := Lib.hid (HX2.out.keep hb)
            replace HB := bel_tr HB hb
            clear hb
            refine hK _ _ HN.out ?_
            clear hK K
            refine Sch.tn_q rfl rfl hT1 (fun K hK => ?_)
            go_big_quiet_op
            first | refine hK _ ?_ | refine ⟨_, fun _ _ => rfl, hK _ ?_⟩
            clear hK K
            rcases da with _ | _
            · refine Sch.tn_load _ _ _ _ _ rfl rfl hT0 rfl (by exact N4.lb) rfl ?_
              simp only [Act.put, List.setIfInBounds_toArray, List.set_cons_zero, List.set_cons_succ]
              refine Sch.tn_e rfl hT0 (fun K hK => ?_)
              go_wp2_with fail
              refine (HDb.out _).mono ?_
              rintro e w24 ⟨rfl, hb⟩
              replace HN := Lib.hid (HN.out.keep hb)
              replace HX2 := Lib.hid (HX2.out.keep hb)
              replace HB := bel_tr HB hb
              clear hb
              refine hK _ _ HN.out ?_
              clear hK K
              refine Sch.tn_q rfl rfl hT1 (fun K hK => ?_)
              go_big_quiet_op
              first | refine hK _ ?_ | refine ⟨_, fun _ _ => rfl, hK _ ?_⟩
              clear hK K
              rcases db with _ | _
              · refine Sch.tn_q rfl rfl hT1 (fun K hK => ?_)
                go_big_quiet_op
                first | refine hK _ ?_ | refine ⟨_, fun _ _ => rfl, hK _ ?_⟩
                clear hK K
                refine Sch.tn_q rfl rfl hT1 (fun K hK => ?_)
                go_big_quiet_op
                first | refine hK _ ?_ | refine ⟨_, fun _ _ => rfl, hK _ ?_⟩
                clear hK K
                refine Sch.tn_load _ _ _ _ _ rfl rfl hT0 rfl (by exact N4.lx) rfl ?_
                simp only [Act.put, List.setIfInBounds_toArray, List.set_cons_zero, List.set_cons_succ]
                refine Sch.tn_e rfl hT0 (fun K hK => ?_)
                go_wp2_with fail
                refine (HVy.out _).mono ?_
                rintro e w25 ⟨rfl, hb⟩
                replace HN := Lib.hid (HN.out.keep hb)
                replace HX2 := Lib.hid (HX2.out.keep hb)
                replace HB := bel_tr HB hb
                clear hb
                refine hK _ _ HN.out ?_
                clear hK K
                refine Sch.tn_q rfl rfl hT0 (fun K hK => ?_)
                go_big_quiet_op
                first | refine hK _ ?_ | refine ⟨_, fun _ _ => rfl, hK _ ?_⟩
                clear hK K
                refine Sch.tn_q rfl rfl hT1 (fun K hK => ?_)
                go_big_quiet_op
                first | refine hK _ ?_ | refine ⟨_, fun _ _ => rfl, hK _ ?_⟩
                clear hK K
                refine Sch.tn_q rfl rfl hT0 (fun K hK => ?_)
                go_big_quiet_op
                first | refine hK _ ?_ | refine ⟨_, fun _ _ => rfl, hK _ ?_⟩
                clear hK K
                refine Sch.tn_q rfl rfl rfl (fun K hK => ?_)
                go_big_quiet_op
                first | refine hK _ ?_ | refine ⟨_, fun _ _ => rfl, hK _ ?_⟩
                clear hK K
                refine Sch.tn_n ?_
                go_wp2_with fail
                go_meet
                case rel => exact ⟨rfl, HN.out.1, HN.out.2, HX2, HB⟩
              · refine Sch.tn_q rfl rfl hT1 (fun K hK => ?_)
                go_big_quiet_op
                first | refine hK _ ?_ | refine ⟨_, fun _ _ => rfl, hK _ ?_⟩
                clear hK K
                refine Sch.tn_q rfl rfl hT1 (fun K hK => ?_)
                go_big_quiet_op
                first | refine hK _ ?_ | refine ⟨_, fun _ _ => rfl, hK _ ?_⟩
                clear hK K
                refine Sch.tn_load _ _ _ _ _ rfl rfl hT0 rfl (by exact N4.lx) rfl ?_
                simp only [Act.put, List.setIfInBounds_toArray, List.set_cons_zero, List.set_cons_succ]
                refine Sch.tn_e rfl hT0 (fun K hK => ?_)
                go_wp2_with fail
                refine (HVy.out _).mono ?_
                rintro e w25 ⟨rfl, hb⟩
                replace HN := Lib.hid (HN.out.keep hb)
                replace HX2 := Lib.hid (HX2.out.keep hb)
                replace HB := bel_tr HB hb
                clear hb
                refine hK _ _ HN.out ?_
                clear hK K
                refine Sch.tn_q rfl rfl hT0 (fun K hK => ?_)
                go_big_quiet_op
                first | refine hK _ ?_ | refine ⟨_, fun _ _ => rfl, hK _ ?_⟩
                clear hK K
                refine Sch.tn_q rfl rfl hT1 (fun K hK => ?_)
                go_big_quiet_op
                first | refine hK _ ?_ | refine ⟨_, fun _ _ => rfl, hK _ ?_⟩
                clear hK K
                refine Sch.tn_q rfl rfl hT0 (fun K hK => ?_)
                go_big_quiet_op
                first | refine hK _ ?_ | refine ⟨_, fun _ _ => rfl, hK _ ?_⟩
                clear hK K
                refine Sch.tn_q rfl rfl rfl (fun K hK => ?_)
                go_big_quiet_op
                first | refine hK _ ?_ | refine ⟨_, fun _ _ => rfl, hK _ ?_⟩
                clear hK K
                refine Sch.tn_n ?_
                go_wp2_with fail
                go_meet
                case rel => exact ⟨rfl, HN.out.1, HN.out.2, HX2, HB⟩
            · refine Sch.tn_s _ rfl hF0 rfl ?_
              simp only [Act.put, List.setIfInBounds_toArray, List.set_cons_zero, List.set_cons_succ]
              refine Sch.tn_se _ rfl hF0 rfl ?_
              simp only [Act.put, List.setIfInBounds_toArray, List.set_cons_zero, List.set_cons_succ]
              refine Sch.tn_q rfl rfl hT1 (fun K hK => ?_)
              go_big_quiet_op
              first | refine hK _ ?_ | refine ⟨_, fun _ _ => rfl, hK _ ?_⟩
              clear hK K
              refine Sch.tn_q rfl rfl hT1 (fun K hK => ?_)
              go_big_quiet_op
              first | refine hK _ ?_ | refine ⟨_, fun _ _ => rfl, hK _ ?_⟩
              clear hK K
              refine Sch.tn_q rfl rfl hT1 (fun K hK => ?_)
              go_big_quiet_op
              first | refine hK _ ?_ | refine ⟨_, fun _ _ => rfl, hK _ ?_⟩
              clear hK K
              refine Sch.tn_load _ _ _ _ _ rfl rfl hT0 rfl (by exact N4.lx) rfl ?_
              simp only [Act.put, List.setIfInBounds_toArray, List.set_cons_zero, List.set_cons_succ]
              refine Sch.tn_e rfl hT0 (fun K hK => ?_)
              go_wp2_with fail
              refine (HVy.out _).mono ?_
              rintro e w25 ⟨rfl, hb⟩
              replace HN := Lib.hid (HN.out.keep hb)
              replace HX2 := Lib.hid (HX2.out.keep hb)
              replace HB := bel_tr HB hb
              clear hb
              refine hK _ _ HN.out ?_
              clear hK K
              refine Sch.tn_q rfl rfl hT0 (fun K hK => ?_)
              go_big_quiet_op
              first | refine hK _ ?_ | refine ⟨_, fun _ _ => rfl, hK _ ?_⟩
              clear hK K
              refine Sch.tn_q rfl rfl hT1 (fun K hK => ?_)
              go_big_quiet_op
              first | refine hK _ ?_ | refine ⟨_, fun _ _ => rfl, hK _ ?_⟩
              clear hK K
              refine Sch.tn_q rfl rfl hT0 (fun K hK => ?_)
              go_big_quiet_op
              first | refine hK _ ?_ | refine ⟨_, fun _ _ => rfl, hK _ ?_⟩
              clear hK K
              refine Sch.tn_q rfl rfl rfl (fun K hK => ?_)
              go_big_quiet_op
              first | refine hK _ ?_ | refine ⟨_, fun _ _ => rfl, hK _ ?_⟩
              clear hK K
              refine Sch.tn_n ?_
              go_wp2_with fail
              go_meet
              case rel => exact ⟨rfl, HN.out.1, HN.out.2, HX2, HB⟩
          · have hk0 : (k1 == 0) = false := by rw [beq_eq_false_iff_ne]; exact hk
            clear hk
            refine Sch.tn_q rfl rfl hT0 (fun K hK => ?_)
            go_big_quiet_op
            first | refine hK _ ?_ | refine ⟨_, fun _ _ => rfl, hK _ ?_⟩
            clear hK K
            refine Sch.tn_q rfl rfl hT0 (fun K hK => ?_)
            go_big_quiet_op
            first | refine hK _ ?_ | refine ⟨_, fun _ _ => rfl, hK _ ?_⟩
            clear hK K
            refine Sch.tn_s _ rfl hF1 rfl ?_
            simp only [Act.put, List.setIfInBounds_toArray, List.set_cons_zero, List.set_cons_succ]
            refine Sch.tn_s _ rfl hF1 rfl ?_
            simp only [Act.put, List.setIfInBounds_toArray, List.set_cons_zero, List.set_cons_succ]
            refine Sch.tn_se _ rfl hF1 rfl ?_
            simp only [Act.put, List.setIfInBounds_toArray, List.set_cons_zero, List.set_cons_succ]
            refine Sch.tn_se _ rfl hF1 rfl ?_
            simp only [Act.put, List.setIfInBounds_toArray, List.set_cons_zero, List.set_cons_succ]
            refine Sch.tn_s _ rfl hF1 rfl ?_
            simp only [Act.put, List.setIfInBounds_toArray, List.set_cons_zero, List.set_cons_succ]
            refine Sch.tn_s _ rfl hN0 rfl ?_
            simp only [Act.put, List.setIfInBounds_toArray, List.set_cons_zero, List.set_cons_succ]
            refine Sch.tn_se _ rfl hN0 rfl ?_
            simp only [Act.put, List.setIfInBounds_toArray, List.set_cons_zero, List.set_cons_succ]
            refine Sch.tn_s _ rfl hF1 rfl ?_
            simp only [Act.put, List.setIfInBounds_toArray, List.set_cons_zero, List.set_cons_succ]
            refine Sch.tn_s _ rfl hF1 rfl ?_
            simp only [Act.put, List.setIfInBounds_toArray, List.set_cons_zero, List.set_cons_succ]
            refine Sch.tn_s _ rfl hF1 rfl ?_
            simp only [Act.put, List.setIfInBounds_toArray, List.set_cons_zero, List.set_cons_succ]
            refine Sch.tn_s _ rfl hN0 rfl ?_
            simp only [Act.put, List.setIfInBounds_toArray, List.set_cons_zero, List.set_cons_succ]
            refine Sch.tn_se _ rfl hN0 rfl ?_
            simp only [Act.put, List.setIfInBounds_toArray, List.set_cons_zero, List.set_cons_succ]
            refine Sch.tn_s _ rfl hN0 rfl ?_
            simp only [Act.put, List.setIfInBounds_toArray, List.set_cons_zero, List.set_cons_succ]
            refine Sch.tn_s _ rfl hF1 rfl ?_
            simp only [Act.put, List.setIfInBounds_toArray, List.set_cons_zero, List.set_cons_succ]
            refine Sch.tn_q rfl rfl hT0 (fun K hK => ?_)
            go_big_quiet_op
            first | refine hK _ ?_ | refine ⟨_, fun _ _ => rfl, hK _ ?_⟩
            clear hK K
            refine Sch.tn_q rfl rfl rfl (fun K hK => ?_)
            go_big_quiet_op
            first | refine hK _ ?_ | refine ⟨_, fun _ _ => rfl, hK _ ?_⟩
            clear hK K
            refine Sch.tn_n ?_
            go_wp2_with fail
            go_meet
            case rel => exact ⟨rfl, HN.out.1, HN.out.2, HX2, HB⟩
        case rest =>
          obtain ⟨rfl, HK, HX1, HX2, HB⟩ := hcut
          clear HMc HDx HDa HDb HVx HOk
          generalize wc = v5 at *
          by_cases hk1 : k1 = 0
          · by_cases hk2 : k2 = 0
            · by_cases hk3 : k3 = 0
              · subst hk1
                subst hk2
                subst hk3
                have hass := HAss.out rfl rfl rfl
                obtain ⟨⟨x4, k4⟩, h4⟩ : ∃ y, y = mergeN x1 c := ⟨_, rfl⟩
                rw [← h4] at HM4 hass
                obtain ⟨hk4, hm4⟩ := hass
                obtain rfl : k4 = 0 := hk4
                have HMb := Lib.hid (HMa.out x4 0 hm4)
                clear hm4 HAss HMa h4
                obtain ⟨x0, x1', x2', x3', x4', x5'⟩ := HX1.out
                obtain ⟨y0, y1, y2, y3, y4, y5⟩ := HX2.out
                obtain ⟨⟨a0, a1, a2, a3, a4, a5⟩, ⟨b0, b1, b2, b3, b4, b5⟩, c0, c1, c2, c3, c4, c5⟩ := HK.out
                go_wp2_with fail
                refine (HM4.out _).mono ?_
                rintro e w42 ⟨rfl, hb⟩
                clear a0 a1 a2 a3 a4 a5 b0 b1 b2 b3 b4 b5 c0 c1 c2 c3 c4 c5
                clear x0 x1' x2' x3' x4' x5' y0 y1 y2 y3 y4 y5
                replace HK := Lib.hid (HK.out.keep hb)
                replace HX2 := Lib.hid (HX2.out.keep hb)
                replace HB := bel_tr HB hb
                clear hb
                have HX4 := Lib.hid (Nb.new w42 x4)
                have hb := bel_box w42 (.cells (nc x4) 25)
                replace HK := Lib.hid (HK.out.keep hb)
                replace HX2 := Lib.hid (HX2.out.keep hb)
                replace HB := bel_tr HB hb
                clear hb
                obtain ⟨⟨a0, a1, a2, a3, a4, a5⟩, ⟨b0, b1, b2, b3, b4, b5⟩, c0, c1, c2, c3, c4, c5⟩ := HK.out
                obtain ⟨y0, y1, y2, y3, y4, y5⟩ := HX2.out
                obtain ⟨z0, z1, z2, z3, z4, z5⟩ := HX4.out
                go_wp2_with fail
                refine (HMb.out _).mono ?_
                rintro e w43 ⟨rfl, hb⟩
                clear a0 a1 a2 a3 a4 a5 b0 b1 b2 b3 b4 b5 c0 c1 c2 c3 c4 c5
                clear y0 y1 y2 y3 y4 y5 z0 z1 z2 z3 z4 z5
                replace HB := bel_tr HB hb
                clear hb
                go_wp2_with fail
                refine (HKn.out _ (HL.out.below HB.out)).mono ?_
                rintro e w41 ⟨rfl, hb⟩
                replace HB := bel_tr HB hb
                clear hb
                go_wp2_with fail
                go_ret
                exact ⟨rfl, HB.out⟩
              · subst hk1
                subst hk2
                have hk : ((k3 : Int) != 0) = true := by rw [bne_iff_ne]; exact hk3
                clear hk3
                go_wp2_with fail
                refine (HKn.out _ (HL.out.below HB.out)).mono ?_
                rintro e w41 ⟨rfl, hb⟩
                replace HB := bel_tr HB hb
                clear hb
                go_wp2_with fail
                go_ret
                exact ⟨rfl, HB.out⟩
            · subst hk1
              have hk : ((k2 : Int) != 0) = true := by rw [bne_iff_ne]; exact hk2
              clear hk2
              go_wp2_with fail
              refine (HKn.out _ (HL.out.below HB.out)).mono ?_
              rintro e w41 ⟨rfl, hb⟩
              replace HB := bel_tr HB hb
              clear hb
              go_wp2_with fail
              go_ret
              exact ⟨rfl, HB.out⟩
          · have hk : ((k1 : Int) != 0) = true := by rw [bne_iff_ne]; exact hk1
            clear hk1
            go_wp2_with fail
            refine (HKn.out _ (HL.out.below HB.out)).mono ?_
            rintro e w41 ⟨rfl, hb⟩
            replace HB := bel_tr HB hb
            clear hb
            go_wp2_with fail
            go_ret
            exact ⟨rfl, HB.out⟩
end Go.Proofs.YtmmcnpcijeahcabGreatDoor.Nd
