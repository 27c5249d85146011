/-
  Layer 16: the reference's Has, Small, Compact.
-/
import Derived.Test.YtgopkffgljiblaaGreatDgD
namespace Go.Proofs.YtgopkffgljiblaaGreat.Dg
set_option linter.unusedVariables false
open Go.RowKit V Go.Sort D Nd Qs Jn
open E (SV getV)
open F (Ct cv cbox Bc)
attribute [local irreducible] Sch.heldN Sch.stepV Sch.stepE

/-- A context's box and a dot's. -/
def Hb (g1 : Nat) (x y : Value) (g2 : Nat) (d : Dt) (w : World) : Prop := Bc w g1 x y ∧ w.cell? ⟨g2, 0, none⟩ = some (.int .i64 d.1) ∧ w.cell? ⟨g2, 1, none⟩ = some (.int .i64 d.2)
theorem Hb.keep {g1 g2 : Nat} {x y : Value} {d : Dt} {w w' : World} (h : Hb g1 x y g2 d w) (hb : Below w.heap.size w w') : Hb g1 x y g2 d w' :=
  ⟨h.1.keep hb, (hb.cell (p := ⟨_, _, none⟩) (lt_of_cell h.2.1)).trans h.2.1, (hb.cell (p := ⟨_, _, none⟩) (lt_of_cell h.2.2)).trans h.2.2⟩
theorem Hb.v {g1 g2 : Nat} {x y : Value} {d : Dt} : ∀ w, Hb g1 x y g2 d w → (Instr.loadAt 23 (.pointer (some ⟨g1, 0, none⟩))).run Tryz.prog w = .ok x w := fun w h => load_vec h.1.1
theorem Hb.l0 {g1 g2 : Nat} {x y : Value} {d : Dt} : ∀ w, Hb g1 x y g2 d w → (Instr.loadAt 3 (.pointer (some ⟨g2, 0, none⟩))).run Tryz.prog w = .ok (.int .i64 d.1) w := fun w h => load_int h.2.1
theorem Hb.l1 {g1 g2 : Nat} {x y : Value} {d : Dt} : ∀ w, Hb g1 x y g2 d w → (Instr.loadAt 3 (.pointer (some ⟨g2, 1, none⟩))).run Tryz.prog w = .ok (.int .i64 d.2) w := fun w h => load_int h.2.2
theorem dot_new (w : World) (d : Dt) : (w.alloc (.cells #[.int .i64 d.1, .int .i64 d.2] 48)).cell? ⟨w.heap.size, 0, none⟩ = some (.int .i64 d.1) ∧ (w.alloc (.cells #[.int .i64 d.1, .int .i64 d.2] 48)).cell? ⟨w.heap.size, 1, none⟩ = some (.int .i64 d.2) := by
  constructor <;> go_simp
theorem bel_dr {w w' : World} (h : Hid (Below w.heap.size w w')) (n : Nat) : Hid (Below w.heap.size w (w'.drewN n)) := bel_drewN h.out n
set_option maxRecDepth 100000 in
set_option maxHeartbeats 4000000 in
theorem hasR_ref (C : Ct) (d : Dt) (x y : Value) (w : World) (h : Kx w x y C) (hl : KL 1000000 C) :
    Calls Tryz.prog 37 #[cv x y, dv d] w fun e w' => e = .returned (.bool (hasR C d)) ∧ Below w.heap.size w w' := by
  obtain ⟨⟨a1, n1, rfl, hr1, -⟩, a2, n2, rfl, hr2, -⟩ := h
  have HE : Hid (hasR C d = (decide (d.2 ≤ getV C.1 d.1) || decide (d ∈ C.2))) := rfl
  have hli : (C.2.length : Int) ≤ 1000000 := by have := hl.2; omega
  have HLa := Lib.hid (fun w h => last_ref C.1 d.1 a1 n1 w h (by have := hl.1; omega))
  have hb0 := bel_box w (cbox (.slice a1 C.1.length n1) (.slice a2 C.2.length n2))
  have hsz : (w.alloc (cbox (.slice a1 C.1.length n1) (.slice a2 C.2.length n2))).heap.size = w.heap.size + 1 := by simp
  have hb1 := bel_box (w.alloc (cbox (.slice a1 C.1.length n1) (.slice a2 C.2.length n2))) (.cells #[.int .i64 d.1, .int .i64 d.2] 48)
  have hn := dot_new (w.alloc (cbox (.slice a1 C.1.length n1) (.slice a2 C.2.length n2))) d
  rw [hsz] at hn
  have HB := bel_tr (Lib.hid hb0) hb1
  have HK : Hid (Hb w.heap.size (.slice a1 C.1.length n1) (.slice a2 C.2.length n2) (w.heap.size + 1) d ((w.alloc (cbox (.slice a1 C.1.length n1) (.slice a2 C.2.length n2))).alloc (.cells #[.int .i64 d.1, .int .i64 d.2] 48))) := Lib.hid ⟨(F.two_new w _ _).keep hb1, hn.1, hn.2⟩
  have H1 := Lib.hid (hr1.keep HB.out)
  have H2 := Lib.hid (hr2.keep HB.out)
  clear hl hr1 hr2 hb0 hb1 hsz hn
  generalize hasR C d = R at *
  generalize getV C.1 d.1 = gq at *
  obtain ⟨d1, d2⟩ := d
  go_enter Tryz.func37, Tryz.ntmps37
  go_upto_region 1 with fail
  generalize (w.alloc (cbox (.slice a1 C.1.length n1) (.slice a2 C.2.length n2))).alloc (.cells #[.int .i64 d1, .int .i64 d2] 48) = w1 at *
  have hd := (Below.refl w1.heap.size w1).drew
  replace HK := Lib.hid (HK.out.keep hd)
  replace HB := bel_tr HB hd
  replace H1 := Lib.hid (H1.out.keep hd)
  replace H2 := Lib.hid (H2.out.keep hd)
  clear hd
  go_wp2_with fail
  refine Sch.wp_region_tn (Hb w.heap.size (.slice a1 C.1.length n1) (.slice a2 C.2.length n2) (w.heap.size + 1) (d1, d2)) (.val 0 (.val 1 (.val 2 (.val 3 (.val 4 (.val 5 (.one 6 (.val 7 .done)))))))) (by kernel_rfl) (by kernel_rfl) HK.out ?_
  repeat (first
    | (refine Sch.tn_q rfl rfl rfl (fun K hK => ?_); go_big_quiet_op; (first | refine hK _ ?_ | refine ⟨_, fun _ _ => rfl, hK _ ?_⟩); clear hK K)
    | (refine Sch.tn_chk _ _ _ rfl rfl rfl rfl rfl ?_; simp only [Act.put, List.setIfInBounds_toArray, List.set_cons_zero, List.set_cons_succ])
    | (refine Sch.tn_load _ _ _ _ _ rfl rfl rfl rfl (by first | exact Hb.v | exact Hb.l0 | exact Hb.l1) rfl ?_; simp only [Act.put, List.setIfInBounds_toArray, List.set_cons_zero, List.set_cons_succ]))
  generalize w1.drew = w2 at *
  refine Sch.tn_e rfl rfl (fun K hK => ?_)
  go_wp2_with fail
  refine (HLa.out _ H1.out).mono ?_
  rintro e w3 ⟨rfl, hl⟩
  have hb := hl.bel
  clear hl HLa H1
  replace HK := Lib.hid (HK.out.keep hb)
  replace HB := bel_tr HB hb
  replace H2 := Lib.hid (H2.out.keep hb)
  clear hb
  refine hK _ _ HK.out ?_
  clear hK K
  by_cases hq : d2 ≤ gq
  · have hqb : decide (d2 ≤ gq) = true := decide_eq_true hq
    have hE : R = true := by rw [HE.out]; show (decide (d2 ≤ gq) || _) = true; rw [hqb]; rfl
    subst hE
    clear HE hq
    repeat (first
      | (refine Sch.tn_q rfl rfl rfl (fun K hK => ?_); go_big_quiet_op; (first | refine hK _ ?_ | refine ⟨_, fun _ _ => rfl, hK _ ?_⟩); clear hK K)
      | (refine Sch.tn_chk _ _ _ rfl rfl rfl rfl rfl ?_; simp only [Act.put, List.setIfInBounds_toArray, List.set_cons_zero, List.set_cons_succ]))
    refine Sch.tn_n ?_
    clear hqb
    go_wp2_with fail
    go_ret
    exact ⟨rfl, HB.out⟩
  · have hqb : decide (d2 ≤ gq) = false := decide_eq_false hq
    have hE : Hid (R = decide ((d1, d2) ∈ C.2)) := by show _ = _; rw [HE.out]; show (decide (d2 ≤ gq) || _) = _; rw [hqb]; rfl
    clear HE hq
    repeat (first
      | (refine Sch.tn_q rfl rfl rfl (fun K hK => ?_); go_big_quiet_op; (first | refine hK _ ?_ | refine ⟨_, fun _ _ => rfl, hK _ ?_⟩); clear hK K)
      | (refine Sch.tn_chk _ _ _ rfl rfl rfl rfl rfl ?_; simp only [Act.put, List.setIfInBounds_toArray, List.set_cons_zero, List.set_cons_succ]))
    refine Sch.tn_n ?_
    clear hqb
    generalize C.2 = l at *
    obtain ⟨⟨b0, b1⟩, k0, k1⟩ := HK.out
    go_wp2_with fail
    go_loopw [5] (fun i wr => ∃ k : Nat, k ≤ l.length ∧ i = .int .i64 k ∧ Hid (Below w3.heap.size w3 wr) ∧ Hid (∀ j (hj : j < l.length), j < k → l[j] ≠ (d1, d2))) (fun i _ => l.length - (intOf i).toNat)
    case atStart => exact ⟨0, Nat.zero_le _, rfl, Below.refl _ _, fun j _ h => by omega⟩
    case round =>
      obtain ⟨k, hk, rfl, hh, HV⟩ := hrel
      clear b0 b1 k0 k1
      have HKr := Lib.hid (HK.out.keep hh.out)
      obtain ⟨⟨b0, b1⟩, k0, k1⟩ := HKr.out
      clear HKr
      by_cases hlt : k < l.length
      · obtain ⟨bb, o1, rfl, p0, p1⟩ := H2.out.get hh.out k hlt
        obtain ⟨p, hp⟩ : ∃ p, p = l[k] := ⟨_, rfl⟩
        rw [← hp] at p0 p1
        have HP := Lib.hid hp
        clear hp
        by_cases hpq : p = (d1, d2)
        · have HN : Hid (R = true) := by
            show _ = _
            rw [hE.out, decide_eq_true_eq, ← hpq, HP.out]
            exact List.getElem_mem hlt
          subst hpq
          go_wp2_with fail
          go_quiet (fail)
          go_wp2_with fail
          go_ret
          exact ⟨by rw [HN.out]; rfl, bel_drewN (HB.out.trans (hh.out.mono HB.out.size)) _⟩
        · have hne := eql_no hpq
          go_wp2_with fail
          go_quiet (fail)
          go_wp2_with fail
          go_roundw
          case rel =>
            refine ⟨k + 1, by omega, by go_num, bel_drewN hh.out _, fun j hj hjk => ?_⟩
            by_cases hjk2 : j = k
            · subst hjk2; rw [← HP.out]; exact hpq
            · exact HV.out j hj (by omega)
          case measure => simp [intOf]; omega
      · obtain rfl : k = l.length := by omega
        have HN : Hid (R = false) := by
          show _ = _
          rw [hE.out, decide_eq_false_iff_not]
          intro h
          obtain ⟨j, hj, e⟩ := List.mem_iff_getElem.1 h
          exact HV.out j hj hj e
        have hend : ¬ (l.length : Int) < (l.length : Int) := by omega
        go_wp2_with fail
        go_ret
        exact ⟨by rw [HN.out]; rfl, HB.out.trans (hh.out.mono HB.out.size)⟩
def smallG (d : Gt) : Bool := decide (d.1.1.length ≤ 40) && decide (d.1.2.length ≤ 40) && decide (d.2.1.length ≤ 40) && decide (d.2.2.length ≤ 40)
theorem small_iff {d : Gt} : smallG d = true ↔ GL 40 d := by
  unfold smallG GL KL
  simp only [Bool.and_eq_true, decide_eq_true_eq]
  constructor
  · rintro ⟨⟨⟨h1, h2⟩, h3⟩, h4⟩; exact ⟨⟨h1, h2⟩, h3, h4⟩
  · rintro ⟨⟨h1, h2⟩, h3, h4⟩; exact ⟨⟨⟨h1, h2⟩, h3⟩, h4⟩
set_option maxRecDepth 100000 in
set_option maxHeartbeats 4000000 in
theorem small_ref (d : Gt) (x y u v : Value) (w : World) (h : Gx w x y u v d) :
    Calls Tryz.prog 6 #[gv x y u v] w fun e w' => e = .returned (.bool (smallG d)) ∧ Below w.heap.size w w' := by
  have HE : Hid (smallG d = (decide ((d.1.1.length : Int) ≤ 40) && decide ((d.1.2.length : Int) ≤ 40) && decide ((d.2.1.length : Int) ≤ 40) && decide ((d.2.2.length : Int) ≤ 40))) := by
    have e (n : Nat) : decide ((n : Int) ≤ 40) = decide (n ≤ 40) := by
      rw [Bool.eq_iff_iff, decide_eq_true_eq, decide_eq_true_eq]
      omega
    show _ = _
    rw [e, e, e, e]
    rfl
  obtain ⟨⟨⟨a1, n1, rfl, -⟩, a2, n2, rfl, -⟩, ⟨a3, n3, rfl, -⟩, a4, n4, rfl, -⟩ := h
  have HB := Lib.hid (bel_box w (gbox (.slice a1 d.1.1.length n1) (.slice a2 d.1.2.length n2) (.slice a3 d.2.1.length n3) (.slice a4 d.2.2.length n4)))
  have HT := Lib.hid (four_new w (.slice a1 d.1.1.length n1) (.slice a2 d.1.2.length n2) (.slice a3 d.2.1.length n3) (.slice a4 d.2.2.length n4))
  generalize smallG d = R at *
  generalize d.1.1.length = m1 at *
  generalize d.1.2.length = m2 at *
  generalize d.2.1.length = m3 at *
  generalize d.2.2.length = m4 at *
  go_enter Tryz.func6, Tryz.ntmps6
  go_upto_region 1 with fail
  generalize w.alloc _ = w1 at *
  have k0 := HT.out.1.1
  have k1 := HT.out.1.2
  have k2 := HT.out.2.1
  have k3 := HT.out.2.2
  have hE := HE.out
  clear HE
  by_cases h1 : (m1 : Int) ≤ 40
  · have e1 : decide ((m1 : Int) ≤ 40) = true := decide_eq_true h1
    by_cases h2 : (m2 : Int) ≤ 40
    · have e2 : decide ((m2 : Int) ≤ 40) = true := decide_eq_true h2
      by_cases h3 : (m3 : Int) ≤ 40
      · have e3 : decide ((m3 : Int) ≤ 40) = true := decide_eq_true h3
        by_cases h4 : (m4 : Int) ≤ 40
        · have e4 : decide ((m4 : Int) ≤ 40) = true := decide_eq_true h4
          rw [e1, e2, e3, e4] at hE
          subst hE
          go_wp2_with fail
          go_ret
          exact ⟨by simp, HB.out⟩
        · have e4 : decide ((m4 : Int) ≤ 40) = false := decide_eq_false h4
          rw [e1, e2, e3, e4] at hE
          subst hE
          go_wp2_with fail
          go_ret
          exact ⟨by simp, HB.out⟩
      · have e3 : decide ((m3 : Int) ≤ 40) = false := decide_eq_false h3
        rw [e1, e2, e3] at hE
        simp only [Bool.true_and, Bool.false_and, Bool.and_false] at hE
        subst hE
        go_wp2_with fail
        go_ret
        exact ⟨by simp, HB.out⟩
    · have e2 : decide ((m2 : Int) ≤ 40) = false := decide_eq_false h2
      rw [e1, e2] at hE
      simp only [Bool.true_and, Bool.false_and, Bool.and_false] at hE
      subst hE
      go_wp2_with fail
      go_ret
      exact ⟨by simp, HB.out⟩
  · have e1 : decide ((m1 : Int) ≤ 40) = false := decide_eq_false h1
    rw [e1] at hE
    simp only [Bool.true_and, Bool.false_and, Bool.and_false] at hE
    subst hE
    go_wp2_with fail
    go_ret
    exact ⟨by simp, HB.out⟩
end Go.Proofs.YtgopkffgljiblaaGreat.Dg
