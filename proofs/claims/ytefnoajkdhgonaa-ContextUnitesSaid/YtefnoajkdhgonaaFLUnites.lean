/-
  The fourth law: the union of two contexts, and whether one is within the other.
-/
import Derived.Test.YtefnoajkdhgonaaFKnown
namespace Go.Proofs.Ytefnoajkdhgonaa.F
set_option linter.unusedVariables false
open Go.RowKit V Go.Sort D
open E (SV SV.nil SV.keep SV.of_od)

theorem zero_box (w : World) : Rc (w.alloc (cbox (.slice none 0 0) (.slice none 0 0))) w.heap.size := rc_new w none none 0 0 0 0
/-- Two blocks that were made, and what was copied. -/
structure Cp (H g1 g2 : Nat) (w0 w : World) (X1 Y1 X2 Y2 : Value) (ow : List (Value × List Dt)) : Prop where
  bx : Sb2 H (H + 1) X1 Y1 X2 Y2 w
  bl : Below w0.heap.size w0 w
theorem row_put2 {w : World} {a : Option Addr} {l : List Dt} {g : Nat} {y z : Value} (h : RowD w a l) (r : Rc w g) : RowD ((w.setCell ⟨g, 0, none⟩ y).setCell ⟨g, 1, none⟩ z) a l := by
  by_cases he : l = []
  · exact .inl he
  · have hb : ∀ b o, a = some ⟨b, o, none⟩ → b ≠ g := by
      rintro b o rfl
      exact r.far (v := .slice (some ⟨b, o, none⟩) l.length l.length) (l := l) ⟨_, _, rfl, h, fun e => (by cases e), Nat.le_refl _⟩ he b rfl
    refine h.of_heap fun b hbo _ => ?_
    obtain ⟨o, e⟩ := hbo
    rw [Below.heap_setCell _ ⟨g, 1, none⟩ z b (hb b o e), Below.heap_setCell _ ⟨g, 0, none⟩ y b (hb b o e)]
theorem Rc.set {w : World} {g h i : Nat} {z : Value} (r : Rc w g) (hne : g ≠ h) : Rc (w.setCell ⟨h, i, none⟩ z) g := by
  obtain ⟨a, n, c, b, m, d, e⟩ := r
  exact ⟨a, n, c, b, m, d, by rw [Below.heap_setCell w ⟨h, i, none⟩ z g hne]; exact e⟩

set_option maxRecDepth 100000 in
set_option maxHeartbeats 8000000 in
theorem unites_law (xs ys us vs : List Dt) (a b p q : Option Addr) (n m j k : Nat) (w : World) (hx : RowD w a xs) (hy : RowD w b ys) (hp : RowD w p us) (hq : RowD w q vs) (hna : a = none → n = 0) (hnb : b = none → m = 0) (hnp : p = none → j = 0) (hnq : q = none → k = 0) (hla : xs.length ≤ n) (hlb : ys.length ≤ m) (hlp : us.length ≤ j) (hlq : vs.length ≤ k) :
    Calls Try.prog 6 #[cv (.slice a xs.length n) (.slice b ys.length m), cv (.slice p us.length j) (.slice q vs.length k)] w fun e w' => e = .returned (.bool true) ∧ Below w.heap.size w w' := by
  have HKn := Lib.hid (fun w => known_any w)
  obtain ⟨t0, t1, hb⟩ := two_boxes w (.slice a xs.length n) (.slice b ys.length m) (.slice p us.length j) (.slice q vs.length k)
  have HK : Hid (Sb2 w.heap.size (w.heap.size + 1) (.slice a xs.length n) (.slice b ys.length m) (.slice p us.length j) (.slice q vs.length k) ((w.alloc (cbox (.slice a xs.length n) (.slice b ys.length m))).alloc (cbox (.slice p us.length j) (.slice q vs.length k)))) := ⟨t0, t1⟩
  have HB := Lib.hid hb
  have HX := Lib.hid (hx.keep hb)
  have HY := Lib.hid (hy.keep hb)
  have HP := Lib.hid (hp.keep hb)
  have HQ := Lib.hid (hq.keep hb)
  have HN1 := Lib.hid hna
  have HN2 := Lib.hid hnb
  have HN3 := Lib.hid hnp
  have HN4 := Lib.hid hnq
  have HA1 := Lib.hid hla
  have HA2 := Lib.hid hlb
  have HA3 := Lib.hid hlp
  have HA4 := Lib.hid hlq
  have HLi := Lib.hid (fun w => light_any xs ys a b n m w)
  have HLj := Lib.hid (fun w => light_any us vs p q j k w)
  clear hx hy hp hq hb t0 t1 hna hnb hnp hnq hla hlb hlp hlq
  have k0 := HK.out.1.1
  have k1 := HK.out.1.2
  by_cases h1 : xs.length ≤ 40 ∧ ys.length ≤ 40
  · rw [show decide (xs.length ≤ 40 ∧ ys.length ≤ 40) = true by simpa using h1] at HLi
    by_cases h2 : us.length ≤ 40 ∧ vs.length ≤ 40
    · rw [show decide (us.length ≤ 40 ∧ vs.length ≤ 40) = true by simpa using h2] at HLj
      have HV1 := Lib.hid (fun w h1 h2 => valid_ref xs ys a b n m w h1 h2 (by omega) (by omega))
      have HV2 := Lib.hid (fun w h1 h2 => valid_ref us vs p q j k w h1 h2 (by omega) (by omega))
      have HUt := Lib.hid (fun a b p q n m j k u v C z w hx hy hp hq e1 e2 e3 e4 hu hv hl h => united_true xs ys a b n m us vs p q j k u v C z w hx hy hp hq e1 e2 e3 e4 (by omega) (by omega) (by omega) (by omega) hu hv hl h)
      have HWt := Lib.hid (fun a b p q n m j k t z w hx hy hp hq e3 h => within_true xs ys a b n m us vs p q j k t z w hx hy hp hq e3 (by omega) (by omega) (by omega) (by omega) h)
      rcases hv1 : validC (xs, ys) with _ | _
      · rw [hv1] at HV1
        have hU : unionB (xs, ys) (us, vs) = (([], []), 2) := by unfold unionB; rw [hv1, if_neg (by simp)]
        have hW : withB (xs, ys) (us, vs) = (false, 2) := by unfold withB; rw [hv1, if_neg (by simp)]
        have HU := Lib.hid hU
        have HW := Lib.hid hW
        clear hv1 h1 h2 hU hW
        go_enter Try.func6, Try.ntmps6
        go_wp2_with fail
        generalize (w.alloc (cbox (.slice a xs.length n) (.slice b ys.length m))).alloc (cbox (.slice p us.length j) (.slice q vs.length k)) = w1 at *
        refine (HLi.out _).mono ?_
        rintro e w2 ⟨rfl, hb⟩
        replace HX := Lib.hid (HX.out.keep hb)
        replace HY := Lib.hid (HY.out.keep hb)
        replace HP := Lib.hid (HP.out.keep hb)
        replace HQ := Lib.hid (HQ.out.keep hb)
        replace HK := Lib.hid (HK.out.keep hb)
        replace HB := bel_tr HB hb
        clear hb
        clear k0 k1
        have k0 := HK.out.1.1
        have k1 := HK.out.1.2
        have k2 := HK.out.2.1
        have k3 := HK.out.2.2
        go_wp2_with fail
        refine (HLj.out _).mono ?_
        rintro e w3 ⟨rfl, hb⟩
        replace HX := Lib.hid (HX.out.keep hb)
        replace HY := Lib.hid (HY.out.keep hb)
        replace HP := Lib.hid (HP.out.keep hb)
        replace HQ := Lib.hid (HQ.out.keep hb)
        replace HK := Lib.hid (HK.out.keep hb)
        replace HB := bel_tr HB hb
        clear hb
        clear k0 k1 k2 k3
        have k0 := HK.out.1.1
        have k1 := HK.out.1.2
        have k2 := HK.out.2.1
        have k3 := HK.out.2.2
        go_wp2_with fail
        refine (HV1.out _ HX.out HY.out).mono ?_
        rintro e w4 ⟨rfl, hb⟩
        replace HX := Lib.hid (HX.out.keep hb)
        replace HY := Lib.hid (HY.out.keep hb)
        replace HP := Lib.hid (HP.out.keep hb)
        replace HQ := Lib.hid (HQ.out.keep hb)
        replace HK := Lib.hid (HK.out.keep hb)
        replace HB := bel_tr HB hb
        clear hb
        clear k0 k1 k2 k3
        have k0 := HK.out.1.1
        have k1 := HK.out.1.2
        have k2 := HK.out.2.1
        have k3 := HK.out.2.2
        go_wp2_with fail
        refine (HUt.out a b p q n m j k (.slice none 0 0) (.slice none 0 0) ([], []) 2 _ HX.out HY.out HP.out HQ.out HN1.out HN2.out HN3.out HN4.out (SV.nil _) (SV.nil _) (by decide) HU.out).mono ?_
        rintro e w5 ⟨rfl, hb⟩
        replace HX := Lib.hid (HX.out.keep hb)
        replace HY := Lib.hid (HY.out.keep hb)
        replace HP := Lib.hid (HP.out.keep hb)
        replace HQ := Lib.hid (HQ.out.keep hb)
        replace HK := Lib.hid (HK.out.keep hb)
        replace HB := bel_tr HB hb
        clear hb
        clear k0 k1 k2 k3
        have k0 := HK.out.1.1
        have k1 := HK.out.1.2
        have k2 := HK.out.2.1
        have k3 := HK.out.2.2
        go_wp2_with fail
        refine (HWt.out a b p q n m j k false 2 _ HX.out HY.out HP.out HQ.out HN3.out HW.out).mono ?_
        rintro e w6 ⟨rfl, hb⟩
        replace HX := Lib.hid (HX.out.keep hb)
        replace HY := Lib.hid (HY.out.keep hb)
        replace HP := Lib.hid (HP.out.keep hb)
        replace HQ := Lib.hid (HQ.out.keep hb)
        replace HK := Lib.hid (HK.out.keep hb)
        replace HB := bel_tr HB hb
        clear hb
        clear k0 k1 k2 k3
        go_wp2_with fail
        refine (HKn.out _).mono ?_
        rintro e w7 ⟨rfl, hb⟩
        replace HX := Lib.hid (HX.out.keep hb)
        replace HY := Lib.hid (HY.out.keep hb)
        replace HP := Lib.hid (HP.out.keep hb)
        replace HQ := Lib.hid (HQ.out.keep hb)
        replace HK := Lib.hid (HK.out.keep hb)
        replace HB := bel_tr HB hb
        clear hb
        go_wp2_with fail
        go_ret
        exact ⟨rfl, HB.out⟩
      · rw [hv1] at HV1
        rcases hv2 : validC (us, vs) with _ | _
        · rw [hv2] at HV2
          have hU : unionB (xs, ys) (us, vs) = (([], []), 2) := by unfold unionB; rw [hv2, if_neg (by simp)]
          have hW : withB (xs, ys) (us, vs) = (false, 2) := by unfold withB; rw [hv2, if_neg (by simp)]
          have HU := Lib.hid hU
          have HW := Lib.hid hW
          clear hv1 hv2 h1 h2 hU hW
          go_enter Try.func6, Try.ntmps6
          go_wp2_with fail
          generalize (w.alloc (cbox (.slice a xs.length n) (.slice b ys.length m))).alloc (cbox (.slice p us.length j) (.slice q vs.length k)) = w1 at *
          refine (HLi.out _).mono ?_
          rintro e w2 ⟨rfl, hb⟩
          replace HX := Lib.hid (HX.out.keep hb)
          replace HY := Lib.hid (HY.out.keep hb)
          replace HP := Lib.hid (HP.out.keep hb)
          replace HQ := Lib.hid (HQ.out.keep hb)
          replace HK := Lib.hid (HK.out.keep hb)
          replace HB := bel_tr HB hb
          clear hb
          clear k0 k1
          have k0 := HK.out.1.1
          have k1 := HK.out.1.2
          have k2 := HK.out.2.1
          have k3 := HK.out.2.2
          go_wp2_with fail
          refine (HLj.out _).mono ?_
          rintro e w3 ⟨rfl, hb⟩
          replace HX := Lib.hid (HX.out.keep hb)
          replace HY := Lib.hid (HY.out.keep hb)
          replace HP := Lib.hid (HP.out.keep hb)
          replace HQ := Lib.hid (HQ.out.keep hb)
          replace HK := Lib.hid (HK.out.keep hb)
          replace HB := bel_tr HB hb
          clear hb
          clear k0 k1 k2 k3
          have k0 := HK.out.1.1
          have k1 := HK.out.1.2
          have k2 := HK.out.2.1
          have k3 := HK.out.2.2
          go_wp2_with fail
          refine (HV1.out _ HX.out HY.out).mono ?_
          rintro e w4 ⟨rfl, hb⟩
          replace HX := Lib.hid (HX.out.keep hb)
          replace HY := Lib.hid (HY.out.keep hb)
          replace HP := Lib.hid (HP.out.keep hb)
          replace HQ := Lib.hid (HQ.out.keep hb)
          replace HK := Lib.hid (HK.out.keep hb)
          replace HB := bel_tr HB hb
          clear hb
          clear k0 k1 k2 k3
          have k0 := HK.out.1.1
          have k1 := HK.out.1.2
          have k2 := HK.out.2.1
          have k3 := HK.out.2.2
          go_wp2_with fail
          refine (HV2.out _ HP.out HQ.out).mono ?_
          rintro e w5 ⟨rfl, hb⟩
          replace HX := Lib.hid (HX.out.keep hb)
          replace HY := Lib.hid (HY.out.keep hb)
          replace HP := Lib.hid (HP.out.keep hb)
          replace HQ := Lib.hid (HQ.out.keep hb)
          replace HK := Lib.hid (HK.out.keep hb)
          replace HB := bel_tr HB hb
          clear hb
          clear k0 k1 k2 k3
          have k0 := HK.out.1.1
          have k1 := HK.out.1.2
          have k2 := HK.out.2.1
          have k3 := HK.out.2.2
          go_wp2_with fail
          refine (HUt.out a b p q n m j k (.slice none 0 0) (.slice none 0 0) ([], []) 2 _ HX.out HY.out HP.out HQ.out HN1.out HN2.out HN3.out HN4.out (SV.nil _) (SV.nil _) (by decide) HU.out).mono ?_
          rintro e w6 ⟨rfl, hb⟩
          replace HX := Lib.hid (HX.out.keep hb)
          replace HY := Lib.hid (HY.out.keep hb)
          replace HP := Lib.hid (HP.out.keep hb)
          replace HQ := Lib.hid (HQ.out.keep hb)
          replace HK := Lib.hid (HK.out.keep hb)
          replace HB := bel_tr HB hb
          clear hb
          clear k0 k1 k2 k3
          have k0 := HK.out.1.1
          have k1 := HK.out.1.2
          have k2 := HK.out.2.1
          have k3 := HK.out.2.2
          go_wp2_with fail
          refine (HWt.out a b p q n m j k false 2 _ HX.out HY.out HP.out HQ.out HN3.out HW.out).mono ?_
          rintro e w7 ⟨rfl, hb⟩
          replace HX := Lib.hid (HX.out.keep hb)
          replace HY := Lib.hid (HY.out.keep hb)
          replace HP := Lib.hid (HP.out.keep hb)
          replace HQ := Lib.hid (HQ.out.keep hb)
          replace HK := Lib.hid (HK.out.keep hb)
          replace HB := bel_tr HB hb
          clear hb
          clear k0 k1 k2 k3
          go_wp2_with fail
          refine (HKn.out _).mono ?_
          rintro e w8 ⟨rfl, hb⟩
          replace HX := Lib.hid (HX.out.keep hb)
          replace HY := Lib.hid (HY.out.keep hb)
          replace HP := Lib.hid (HP.out.keep hb)
          replace HQ := Lib.hid (HQ.out.keep hb)
          replace HK := Lib.hid (HK.out.keep hb)
          replace HB := bel_tr HB hb
          clear hb
          go_wp2_with fail
          go_ret
          exact ⟨rfl, HB.out⟩
        · rw [hv2] at HV2
          have d1 := (valid_vc _).1 hv1
          have d2 := (valid_vc _).1 hv2
          have hU : unionB (xs, ys) (us, vs) = (unionC (xs, ys) (us, vs), 0) := by unfold unionB; rw [if_pos ⟨hv1, hv2⟩]
          have hW : withB (xs, ys) (us, vs) = (withinC (xs, ys) (us, vs), 0) := by unfold withB; rw [if_pos ⟨hv1, hv2⟩]
          have HU := Lib.hid hU
          have HW := Lib.hid hW
          have HO1 := Lib.hid (fun w h1 h2 => own_any xs ys a b n m w h1 h2 HN1.out HN2.out (by omega) (by omega))
          have HO2 := Lib.hid (fun w h1 h2 => own_any us vs p q j k w h1 h2 HN3.out HN4.out (by omega) (by omega))
          have HR1 := Lib.hid (fun w h1 h2 h3 h4 => union_ref6 xs ys us vs a b p q n m j k w d1 d2 h1 h2 h3 h4 HN1.out HA1.out (by omega) (by omega) (by omega) (by omega))
          have HR2 := Lib.hid (fun w h1 h2 h3 h4 => within_ref6 xs ys us vs a b p q n m j k w d2 h1 h2 h3 h4 HN3.out HA3.out HN4.out HA4.out (by omega) (by omega) (by omega) (by omega))
          have hul := union_len6 d1 d2
          have HUl : Hid ((unionC (xs, ys) (us, vs)).1.length ≤ 1000000 ∧ (unionC (xs, ys) (us, vs)).2.length ≤ 1000000) := ⟨Nat.le_trans hul.1 (by omega), Nat.le_trans hul.2 (by simp only; omega)⟩
          have HE1 := Lib.hid (fun a b p q n m j k w h1 h2 h3 h4 => equal_ref xs ys xs ys a b p q n m j k w h1 h2 h3 h4 (by omega) (by omega) (by omega) (by omega))
          have HE2 := Lib.hid (fun a b p q n m j k w h1 h2 h3 h4 => equal_ref us vs us vs a b p q n m j k w h1 h2 h3 h4 (by omega) (by omega) (by omega) (by omega))
          rw [show decide ((xs, ys) = (xs, ys)) = true by simp] at HE1
          rw [show decide ((us, vs) = (us, vs)) = true by simp] at HE2
          clear hv1 hv2 h1 h2 hU hW d1 d2 hul
          generalize unionC (xs, ys) (us, vs) = C at *
          generalize withinC (xs, ys) (us, vs) = t at *
          go_enter Try.func6, Try.ntmps6
          go_wp2_with fail
          generalize (w.alloc (cbox (.slice a xs.length n) (.slice b ys.length m))).alloc (cbox (.slice p us.length j) (.slice q vs.length k)) = w1 at *
          refine (HLi.out _).mono ?_
          rintro e w2 ⟨rfl, hb⟩
          replace HX := Lib.hid (HX.out.keep hb)
          replace HY := Lib.hid (HY.out.keep hb)
          replace HP := Lib.hid (HP.out.keep hb)
          replace HQ := Lib.hid (HQ.out.keep hb)
          replace HK := Lib.hid (HK.out.keep hb)
          replace HB := bel_tr HB hb
          clear hb
          clear k0 k1
          have k0 := HK.out.1.1
          have k1 := HK.out.1.2
          have k2 := HK.out.2.1
          have k3 := HK.out.2.2
          go_wp2_with fail
          refine (HLj.out _).mono ?_
          rintro e w3 ⟨rfl, hb⟩
          replace HX := Lib.hid (HX.out.keep hb)
          replace HY := Lib.hid (HY.out.keep hb)
          replace HP := Lib.hid (HP.out.keep hb)
          replace HQ := Lib.hid (HQ.out.keep hb)
          replace HK := Lib.hid (HK.out.keep hb)
          replace HB := bel_tr HB hb
          clear hb
          clear k0 k1 k2 k3
          have k0 := HK.out.1.1
          have k1 := HK.out.1.2
          have k2 := HK.out.2.1
          have k3 := HK.out.2.2
          go_wp2_with fail
          refine (HV1.out _ HX.out HY.out).mono ?_
          rintro e w4 ⟨rfl, hb⟩
          replace HX := Lib.hid (HX.out.keep hb)
          replace HY := Lib.hid (HY.out.keep hb)
          replace HP := Lib.hid (HP.out.keep hb)
          replace HQ := Lib.hid (HQ.out.keep hb)
          replace HK := Lib.hid (HK.out.keep hb)
          replace HB := bel_tr HB hb
          clear hb
          clear k0 k1 k2 k3
          have k0 := HK.out.1.1
          have k1 := HK.out.1.2
          have k2 := HK.out.2.1
          have k3 := HK.out.2.2
          go_wp2_with fail
          refine (HV2.out _ HP.out HQ.out).mono ?_
          rintro e w5 ⟨rfl, hb⟩
          replace HX := Lib.hid (HX.out.keep hb)
          replace HY := Lib.hid (HY.out.keep hb)
          replace HP := Lib.hid (HP.out.keep hb)
          replace HQ := Lib.hid (HQ.out.keep hb)
          replace HK := Lib.hid (HK.out.keep hb)
          replace HB := bel_tr HB hb
          clear hb
          clear k0 k1 k2 k3
          have k0 := HK.out.1.1
          have k1 := HK.out.1.2
          have k2 := HK.out.2.1
          have k3 := HK.out.2.2
          clear k0 k1 k2 k3
          go_wp2_with fail
          go_cut [5, 6] from 36 to 39 (fun u v wx => ∃ g1 g2 x3 y3 x4 y4, u = .pointer (some ⟨g1, 0, none⟩) ∧ v = .pointer (some ⟨g2, 0, none⟩) ∧ Hid (S4 w.heap.size (w.heap.size + 1) g1 g2 (.slice a xs.length n) (.slice b ys.length m) (.slice p us.length j) (.slice q vs.length k) x3 y3 x4 y4 wx) ∧ Hid (SV wx x3 xs) ∧ Hid (SV wx y3 ys) ∧ Hid (SV wx x4 us) ∧ Hid (SV wx y4 vs) ∧ Hid (RowD wx a xs) ∧ Hid (RowD wx b ys) ∧ Hid (RowD wx p us) ∧ Hid (RowD wx q vs) ∧ Hid (Below w.heap.size w wx))
          case first =>
            refine Sch.wp_region_tree (Sb2 w.heap.size (w.heap.size + 1) (.slice a xs.length n) (.slice b ys.length m) (.slice p us.length j) (.slice q vs.length k)) (.take 0 (.take 2 (.three 1 (.three 3 (.two 4 (.one 5 (.one 6 (.one 7 .done))) 5 (.one 4 (.one 6 (.one 7 .done)))) 4 (.two 3 (.one 5 (.one 6 (.one 7 .done))) 5 (.one 3 (.one 6 (.one 7 .done)))) 5 (.two 3 (.one 4 (.one 6 (.one 7 .done))) 4 (.one 3 (.one 6 (.one 7 .done))))) 4 (.two 1 (.two 3 (.one 5 (.one 6 (.one 7 .done))) 5 (.one 3 (.one 6 (.one 7 .done)))) 5 (.one 1 (.one 3 (.one 6 (.one 7 .done))))) 5 (.two 1 (.two 3 (.one 4 (.one 6 (.one 7 .done))) 4 (.one 3 (.one 6 (.one 7 .done)))) 4 (.one 1 (.one 3 (.one 6 (.one 7 .done)))))))) (by kernel_rfl) (by kernel_rfl) (HK.out.keep ((Below.refl _ _).drew)) ?_
            have hb : Below w5.heap.size w5 w5.drew := (Below.refl _ _).drew
            replace HX := Lib.hid (HX.out.keep hb)
            replace HY := Lib.hid (HY.out.keep hb)
            replace HP := Lib.hid (HP.out.keep hb)
            replace HQ := Lib.hid (HQ.out.keep hb)
            replace HK := Lib.hid (HK.out.keep hb)
            replace HB := bel_tr HB hb
            clear hb
            generalize w5.drew = w6 at *
            refine tree_load _ _ _ _ _ rfl rfl rfl rfl (by first | exact Sb2.la | exact Sb2.l) rfl ?_
            simp only [Act.put, List.setIfInBounds_toArray, List.set_cons_zero, List.set_cons_succ]
            refine tree_load _ _ _ _ _ rfl rfl rfl rfl (by first | exact Sb2.la | exact Sb2.l) rfl ?_
            simp only [Act.put, List.setIfInBounds_toArray, List.set_cons_zero, List.set_cons_succ]
            refine Sch.tree_three ?_ ?_ ?_
            · refine Sch.tree_e rfl rfl (fun K hK => ?_)
              go_wp2_with fail
              refine (HO1.out _ HX.out HY.out).mono ?_
              rintro e w7 ⟨x3, y3, rfl, ho, hb⟩
              obtain ⟨a3, n3, b3, m3, rfl, rfl⟩ := ho.shape
              have HS3 := Lib.hid (SV.of_od ho.1)
              have HS4 := Lib.hid (SV.of_od ho.2)
              clear ho
              replace HX := Lib.hid (HX.out.keep hb)
              replace HY := Lib.hid (HY.out.keep hb)
              replace HP := Lib.hid (HP.out.keep hb)
              replace HQ := Lib.hid (HQ.out.keep hb)
              replace HK := Lib.hid (HK.out.keep hb)
              replace HB := bel_tr HB hb
              clear hb
              refine hK _ _ HK.out ?_
              clear hK K
              refine Sch.tree_three ?_ ?_ ?_
              · refine Sch.tree_e rfl rfl (fun K hK => ?_)
                go_wp2_with fail
                refine (HO2.out _ HP.out HQ.out).mono ?_
                rintro e w8 ⟨x4, y4, rfl, ho, hb⟩
                obtain ⟨a4, n4, b4, m4, rfl, rfl⟩ := ho.shape
                have HS5 := Lib.hid (SV.of_od ho.1)
                have HS6 := Lib.hid (SV.of_od ho.2)
                clear ho
                replace HX := Lib.hid (HX.out.keep hb)
                replace HY := Lib.hid (HY.out.keep hb)
                replace HP := Lib.hid (HP.out.keep hb)
                replace HQ := Lib.hid (HQ.out.keep hb)
                replace HK := Lib.hid (HK.out.keep hb)
                replace HS3 := Lib.hid (HS3.out.keep hb)
                replace HS4 := Lib.hid (HS4.out.keep hb)
                replace HB := bel_tr HB hb
                clear hb
                refine hK _ _ HK.out ?_
                clear hK K
                refine Sch.tree_two ?_ ?_
                · have HR4 := Lib.hid (zero_box w8)
                  have HL4 : Hid (w.heap.size + 1 < w8.heap.size) := lt_of_cell HK.out.2.1
                  have hb := bel_box w8 (cbox (.slice none 0 0) (.slice none 0 0))
                  replace HX := Lib.hid (HX.out.keep hb)
                  replace HY := Lib.hid (HY.out.keep hb)
                  replace HP := Lib.hid (HP.out.keep hb)
                  replace HQ := Lib.hid (HQ.out.keep hb)
                  replace HK := Lib.hid (HK.out.keep hb)
                  replace HS3 := Lib.hid (HS3.out.keep hb)
                  replace HS4 := Lib.hid (HS4.out.keep hb)
                  replace HS5 := Lib.hid (HS5.out.keep hb)
                  replace HS6 := Lib.hid (HS6.out.keep hb)
                  replace HB := bel_tr HB hb
                  clear hb
                  refine Sch.tree_e rfl rfl (fun K hK => ?_)
                  go_wp2_with fail
                  refine hK _ _ HK.out ?_
                  clear hK K
                  generalize w8.alloc (cbox (.slice none 0 0) (.slice none 0 0)) = w9 at *
                  generalize w8.heap.size = g4 at *
                  have HR5 := Lib.hid (zero_box w9)
                  have HL5 : Hid (w.heap.size + 1 < w9.heap.size) := lt_of_cell HK.out.2.1
                  have H45 : Hid (g4 ≠ w9.heap.size) := Nat.ne_of_lt HR4.out.lt
                  have hb := bel_box w9 (cbox (.slice none 0 0) (.slice none 0 0))
                  replace HX := Lib.hid (HX.out.keep hb)
                  replace HY := Lib.hid (HY.out.keep hb)
                  replace HP := Lib.hid (HP.out.keep hb)
                  replace HQ := Lib.hid (HQ.out.keep hb)
                  replace HK := Lib.hid (HK.out.keep hb)
                  replace HS3 := Lib.hid (HS3.out.keep hb)
                  replace HS4 := Lib.hid (HS4.out.keep hb)
                  replace HS5 := Lib.hid (HS5.out.keep hb)
                  replace HS6 := Lib.hid (HS6.out.keep hb)
                  replace HR4 := Lib.hid (HR4.out.keep hb)
                  replace HB := bel_tr HB hb
                  clear hb
                  refine Sch.tree_e rfl rfl (fun K hK => ?_)
                  go_wp2_with fail
                  refine hK _ _ HK.out ?_
                  clear hK K
                  generalize w9.alloc (cbox (.slice none 0 0) (.slice none 0 0)) = w10 at *
                  generalize w9.heap.size = g5 at *
                  obtain ⟨⟨u0, r0⟩, r1⟩ := HR4.out.wc 0 (by omega)
                  obtain ⟨⟨u1, r2⟩, r3⟩ := HR4.out.wc 1 (by omega)
                  have HT6 := Lib.hid (put_two (x := (.slice a3 xs.length n3)) (y := (.slice b3 ys.length m3)) HR4.out.wc)
                  have hk : Sb2 w.heap.size (w.heap.size + 1) (.slice a xs.length n) (.slice b ys.length m) (.slice p us.length j) (.slice q vs.length k) ((w10.setCell ⟨g4, 0, none⟩ (.slice a3 xs.length n3)).setCell ⟨g4, 1, none⟩ (.slice b3 ys.length m3)) := ⟨Bc.set (Bc.set HK.out.1 (by have h1 := HL4.out; omega)) (by have h1 := HL4.out; omega), Bc.set (Bc.set HK.out.2 (by have h1 := HL4.out; omega)) (by have h1 := HL4.out; omega)⟩
                  replace HS3 := Lib.hid (SV.put2 (y := (.slice a3 xs.length n3)) (z := (.slice b3 ys.length m3)) HS3.out HR4.out)
                  replace HS4 := Lib.hid (SV.put2 (y := (.slice a3 xs.length n3)) (z := (.slice b3 ys.length m3)) HS4.out HR4.out)
                  replace HS5 := Lib.hid (SV.put2 (y := (.slice a3 xs.length n3)) (z := (.slice b3 ys.length m3)) HS5.out HR4.out)
                  replace HS6 := Lib.hid (SV.put2 (y := (.slice a3 xs.length n3)) (z := (.slice b3 ys.length m3)) HS6.out HR4.out)
                  replace HX := Lib.hid (row_put2 (y := (.slice a3 xs.length n3)) (z := (.slice b3 ys.length m3)) HX.out HR4.out)
                  replace HY := Lib.hid (row_put2 (y := (.slice a3 xs.length n3)) (z := (.slice b3 ys.length m3)) HY.out HR4.out)
                  replace HP := Lib.hid (row_put2 (y := (.slice a3 xs.length n3)) (z := (.slice b3 ys.length m3)) HP.out HR4.out)
                  replace HQ := Lib.hid (row_put2 (y := (.slice a3 xs.length n3)) (z := (.slice b3 ys.length m3)) HQ.out HR4.out)
                  replace HB : Hid (Below w.heap.size w ((w10.setCell ⟨g4, 0, none⟩ (.slice a3 xs.length n3)).setCell ⟨g4, 1, none⟩ (.slice b3 ys.length m3))) := below_put HB.out (by have h1 := HL4.out; omega)
                  replace HR5 := Lib.hid (Rc.set (Rc.set HR5.out (by have := H45.out; omega)) (by have := H45.out; omega) : Rc ((w10.setCell ⟨g4, 0, none⟩ (.slice a3 xs.length n3)).setCell ⟨g4, 1, none⟩ (.slice b3 ys.length m3)) g5)
                  replace HK := Lib.hid hk
                  clear hk
                  refine Sch.tree_e rfl rfl (fun K hK => ?_)
                  go_wp2_with fail
                  refine hK _ _ HK.out ?_
                  clear hK K r0 r1 r2 r3
                  generalize ((w10.setCell ⟨g4, 0, none⟩ (.slice a3 xs.length n3)).setCell ⟨g4, 1, none⟩ (.slice b3 ys.length m3)) = w11 at *
                  obtain ⟨⟨u0, r0⟩, r1⟩ := HR5.out.wc 0 (by omega)
                  obtain ⟨⟨u1, r2⟩, r3⟩ := HR5.out.wc 1 (by omega)
                  have HT7 := Lib.hid (put_two (x := (.slice a4 us.length n4)) (y := (.slice b4 vs.length m4)) HR5.out.wc)
                  have hk : Sb2 w.heap.size (w.heap.size + 1) (.slice a xs.length n) (.slice b ys.length m) (.slice p us.length j) (.slice q vs.length k) ((w11.setCell ⟨g5, 0, none⟩ (.slice a4 us.length n4)).setCell ⟨g5, 1, none⟩ (.slice b4 vs.length m4)) := ⟨Bc.set (Bc.set HK.out.1 (by have h1 := HL5.out; omega)) (by have h1 := HL5.out; omega), Bc.set (Bc.set HK.out.2 (by have h1 := HL5.out; omega)) (by have h1 := HL5.out; omega)⟩
                  replace HS3 := Lib.hid (SV.put2 (y := (.slice a4 us.length n4)) (z := (.slice b4 vs.length m4)) HS3.out HR5.out)
                  replace HS4 := Lib.hid (SV.put2 (y := (.slice a4 us.length n4)) (z := (.slice b4 vs.length m4)) HS4.out HR5.out)
                  replace HS5 := Lib.hid (SV.put2 (y := (.slice a4 us.length n4)) (z := (.slice b4 vs.length m4)) HS5.out HR5.out)
                  replace HS6 := Lib.hid (SV.put2 (y := (.slice a4 us.length n4)) (z := (.slice b4 vs.length m4)) HS6.out HR5.out)
                  replace HX := Lib.hid (row_put2 (y := (.slice a4 us.length n4)) (z := (.slice b4 vs.length m4)) HX.out HR5.out)
                  replace HY := Lib.hid (row_put2 (y := (.slice a4 us.length n4)) (z := (.slice b4 vs.length m4)) HY.out HR5.out)
                  replace HP := Lib.hid (row_put2 (y := (.slice a4 us.length n4)) (z := (.slice b4 vs.length m4)) HP.out HR5.out)
                  replace HQ := Lib.hid (row_put2 (y := (.slice a4 us.length n4)) (z := (.slice b4 vs.length m4)) HQ.out HR5.out)
                  replace HB : Hid (Below w.heap.size w ((w11.setCell ⟨g5, 0, none⟩ (.slice a4 us.length n4)).setCell ⟨g5, 1, none⟩ (.slice b4 vs.length m4))) := below_put HB.out (by have h1 := HL5.out; omega)
                  replace HT6 := Lib.hid (Bc.set (Bc.set HT6.out (by have := H45.out; omega)) (by have := H45.out; omega) : Bc ((w11.setCell ⟨g5, 0, none⟩ (.slice a4 us.length n4)).setCell ⟨g5, 1, none⟩ (.slice b4 vs.length m4)) g4 _ _)
                  replace HK := Lib.hid hk
                  clear hk
                  refine Sch.tree_e rfl rfl (fun K hK => ?_)
                  go_wp2_with fail
                  refine hK _ _ HK.out ?_
                  clear hK K r0 r1 r2 r3
                  generalize ((w11.setCell ⟨g5, 0, none⟩ (.slice a4 us.length n4)).setCell ⟨g5, 1, none⟩ (.slice b4 vs.length m4)) = w12 at *
                  refine Sch.tree_n ?_
                  go_wp2_with fail
                  go_meet
                  case rel => exact ⟨_, _, _, _, _, _, rfl, rfl, ⟨HK.out.1, HK.out.2, HT6.out, HT7.out⟩, HS3, HS4, HS5, HS6, HX, HY, HP, HQ, HB⟩
                · have HR5 := Lib.hid (zero_box w8)
                  have HL5 : Hid (w.heap.size + 1 < w8.heap.size) := lt_of_cell HK.out.2.1
                  have hb := bel_box w8 (cbox (.slice none 0 0) (.slice none 0 0))
                  replace HX := Lib.hid (HX.out.keep hb)
                  replace HY := Lib.hid (HY.out.keep hb)
                  replace HP := Lib.hid (HP.out.keep hb)
                  replace HQ := Lib.hid (HQ.out.keep hb)
                  replace HK := Lib.hid (HK.out.keep hb)
                  replace HS3 := Lib.hid (HS3.out.keep hb)
                  replace HS4 := Lib.hid (HS4.out.keep hb)
                  replace HS5 := Lib.hid (HS5.out.keep hb)
                  replace HS6 := Lib.hid (HS6.out.keep hb)
                  replace HB := bel_tr HB hb
                  clear hb
                  refine Sch.tree_e rfl rfl (fun K hK => ?_)
                  go_wp2_with fail
                  refine hK _ _ HK.out ?_
                  clear hK K
                  generalize w8.alloc (cbox (.slice none 0 0) (.slice none 0 0)) = w9 at *
                  generalize w8.heap.size = g5 at *
                  have HR4 := Lib.hid (zero_box w9)
                  have HL4 : Hid (w.heap.size + 1 < w9.heap.size) := lt_of_cell HK.out.2.1
                  have H45 : Hid (g5 ≠ w9.heap.size) := Nat.ne_of_lt HR5.out.lt
                  have hb := bel_box w9 (cbox (.slice none 0 0) (.slice none 0 0))
                  replace HX := Lib.hid (HX.out.keep hb)
                  replace HY := Lib.hid (HY.out.keep hb)
                  replace HP := Lib.hid (HP.out.keep hb)
                  replace HQ := Lib.hid (HQ.out.keep hb)
                  replace HK := Lib.hid (HK.out.keep hb)
                  replace HS3 := Lib.hid (HS3.out.keep hb)
                  replace HS4 := Lib.hid (HS4.out.keep hb)
                  replace HS5 := Lib.hid (HS5.out.keep hb)
                  replace HS6 := Lib.hid (HS6.out.keep hb)
                  replace HR5 := Lib.hid (HR5.out.keep hb)
                  replace HB := bel_tr HB hb
                  clear hb
                  refine Sch.tree_e rfl rfl (fun K hK => ?_)
                  go_wp2_with fail
                  refine hK _ _ HK.out ?_
                  clear hK K
                  generalize w9.alloc (cbox (.slice none 0 0) (.slice none 0 0)) = w10 at *
                  generalize w9.heap.size = g4 at *
                  obtain ⟨⟨u0, r0⟩, r1⟩ := HR4.out.wc 0 (by omega)
                  obtain ⟨⟨u1, r2⟩, r3⟩ := HR4.out.wc 1 (by omega)
                  have HT6 := Lib.hid (put_two (x := (.slice a3 xs.length n3)) (y := (.slice b3 ys.length m3)) HR4.out.wc)
                  have hk : Sb2 w.heap.size (w.heap.size + 1) (.slice a xs.length n) (.slice b ys.length m) (.slice p us.length j) (.slice q vs.length k) ((w10.setCell ⟨g4, 0, none⟩ (.slice a3 xs.length n3)).setCell ⟨g4, 1, none⟩ (.slice b3 ys.length m3)) := ⟨Bc.set (Bc.set HK.out.1 (by have h1 := HL4.out; omega)) (by have h1 := HL4.out; omega), Bc.set (Bc.set HK.out.2 (by have h1 := HL4.out; omega)) (by have h1 := HL4.out; omega)⟩
                  replace HS3 := Lib.hid (SV.put2 (y := (.slice a3 xs.length n3)) (z := (.slice b3 ys.length m3)) HS3.out HR4.out)
                  replace HS4 := Lib.hid (SV.put2 (y := (.slice a3 xs.length n3)) (z := (.slice b3 ys.length m3)) HS4.out HR4.out)
                  replace HS5 := Lib.hid (SV.put2 (y := (.slice a3 xs.length n3)) (z := (.slice b3 ys.length m3)) HS5.out HR4.out)
                  replace HS6 := Lib.hid (SV.put2 (y := (.slice a3 xs.length n3)) (z := (.slice b3 ys.length m3)) HS6.out HR4.out)
                  replace HX := Lib.hid (row_put2 (y := (.slice a3 xs.length n3)) (z := (.slice b3 ys.length m3)) HX.out HR4.out)
                  replace HY := Lib.hid (row_put2 (y := (.slice a3 xs.length n3)) (z := (.slice b3 ys.length m3)) HY.out HR4.out)
                  replace HP := Lib.hid (row_put2 (y := (.slice a3 xs.length n3)) (z := (.slice b3 ys.length m3)) HP.out HR4.out)
                  replace HQ := Lib.hid (row_put2 (y := (.slice a3 xs.length n3)) (z := (.slice b3 ys.length m3)) HQ.out HR4.out)
                  replace HB : Hid (Below w.heap.size w ((w10.setCell ⟨g4, 0, none⟩ (.slice a3 xs.length n3)).setCell ⟨g4, 1, none⟩ (.slice b3 ys.length m3))) := below_put HB.out (by have h1 := HL4.out; omega)
                  replace HR5 := Lib.hid (Rc.set (Rc.set HR5.out (by have := H45.out; omega)) (by have := H45.out; omega) : Rc ((w10.setCell ⟨g4, 0, none⟩ (.slice a3 xs.length n3)).setCell ⟨g4, 1, none⟩ (.slice b3 ys.length m3)) g5)
                  replace HK := Lib.hid hk
                  clear hk
                  refine Sch.tree_e rfl rfl (fun K hK => ?_)
                  go_wp2_with fail
                  refine hK _ _ HK.out ?_
                  clear hK K r0 r1 r2 r3
                  generalize ((w10.setCell ⟨g4, 0, none⟩ (.slice a3 xs.length n3)).setCell ⟨g4, 1, none⟩ (.slice b3 ys.length m3)) = w11 at *
                  obtain ⟨⟨u0, r0⟩, r1⟩ := HR5.out.wc 0 (by omega)
                  obtain ⟨⟨u1, r2⟩, r3⟩ := HR5.out.wc 1 (by omega)
                  have HT7 := Lib.hid (put_two (x := (.slice a4 us.length n4)) (y := (.slice b4 vs.length m4)) HR5.out.wc)
                  have hk : Sb2 w.heap.size (w.heap.size + 1) (.slice a xs.length n) (.slice b ys.length m) (.slice p us.length j) (.slice q vs.length k) ((w11.setCell ⟨g5, 0, none⟩ (.slice a4 us.length n4)).setCell ⟨g5, 1, none⟩ (.slice b4 vs.length m4)) := ⟨Bc.set (Bc.set HK.out.1 (by have h1 := HL5.out; omega)) (by have h1 := HL5.out; omega), Bc.set (Bc.set HK.out.2 (by have h1 := HL5.out; omega)) (by have h1 := HL5.out; omega)⟩
                  replace HS3 := Lib.hid (SV.put2 (y := (.slice a4 us.length n4)) (z := (.slice b4 vs.length m4)) HS3.out HR5.out)
                  replace HS4 := Lib.hid (SV.put2 (y := (.slice a4 us.length n4)) (z := (.slice b4 vs.length m4)) HS4.out HR5.out)
                  replace HS5 := Lib.hid (SV.put2 (y := (.slice a4 us.length n4)) (z := (.slice b4 vs.length m4)) HS5.out HR5.out)
                  replace HS6 := Lib.hid (SV.put2 (y := (.slice a4 us.length n4)) (z := (.slice b4 vs.length m4)) HS6.out HR5.out)
                  replace HX := Lib.hid (row_put2 (y := (.slice a4 us.length n4)) (z := (.slice b4 vs.length m4)) HX.out HR5.out)
                  replace HY := Lib.hid (row_put2 (y := (.slice a4 us.length n4)) (z := (.slice b4 vs.length m4)) HY.out HR5.out)
                  replace HP := Lib.hid (row_put2 (y := (.slice a4 us.length n4)) (z := (.slice b4 vs.length m4)) HP.out HR5.out)
                  replace HQ := Lib.hid (row_put2 (y := (.slice a4 us.length n4)) (z := (.slice b4 vs.length m4)) HQ.out HR5.out)
                  replace HB : Hid (Below w.heap.size w ((w11.setCell ⟨g5, 0, none⟩ (.slice a4 us.length n4)).setCell ⟨g5, 1, none⟩ (.slice b4 vs.length m4))) := below_put HB.out (by have h1 := HL5.out; omega)
                  replace HT6 := Lib.hid (Bc.set (Bc.set HT6.out (by have := H45.out; omega)) (by have := H45.out; omega) : Bc ((w11.setCell ⟨g5, 0, none⟩ (.slice a4 us.length n4)).setCell ⟨g5, 1, none⟩ (.slice b4 vs.length m4)) g4 _ _)
                  replace HK := Lib.hid hk
                  clear hk
                  refine Sch.tree_e rfl rfl (fun K hK => ?_)
                  go_wp2_with fail
                  refine hK _ _ HK.out ?_
                  clear hK K r0 r1 r2 r3
                  generalize ((w11.setCell ⟨g5, 0, none⟩ (.slice a4 us.length n4)).setCell ⟨g5, 1, none⟩ (.slice b4 vs.length m4)) = w12 at *
                  refine Sch.tree_n ?_
                  go_wp2_with fail
                  go_meet
                  case rel => exact ⟨_, _, _, _, _, _, rfl, rfl, ⟨HK.out.1, HK.out.2, HT6.out, HT7.out⟩, HS3, HS4, HS5, HS6, HX, HY, HP, HQ, HB⟩
              · have HR4 := Lib.hid (zero_box w7)
                have HL4 : Hid (w.heap.size + 1 < w7.heap.size) := lt_of_cell HK.out.2.1
                have hb := bel_box w7 (cbox (.slice none 0 0) (.slice none 0 0))
                replace HX := Lib.hid (HX.out.keep hb)
                replace HY := Lib.hid (HY.out.keep hb)
                replace HP := Lib.hid (HP.out.keep hb)
                replace HQ := Lib.hid (HQ.out.keep hb)
                replace HK := Lib.hid (HK.out.keep hb)
                replace HS3 := Lib.hid (HS3.out.keep hb)
                replace HS4 := Lib.hid (HS4.out.keep hb)
                replace HB := bel_tr HB hb
                clear hb
                refine Sch.tree_e rfl rfl (fun K hK => ?_)
                go_wp2_with fail
                refine hK _ _ HK.out ?_
                clear hK K
                generalize w7.alloc (cbox (.slice none 0 0) (.slice none 0 0)) = w8 at *
                generalize w7.heap.size = g4 at *
                refine Sch.tree_two ?_ ?_
                · refine Sch.tree_e rfl rfl (fun K hK => ?_)
                  go_wp2_with fail
                  refine (HO2.out _ HP.out HQ.out).mono ?_
                  rintro e w9 ⟨x4, y4, rfl, ho, hb⟩
                  obtain ⟨a4, n4, b4, m4, rfl, rfl⟩ := ho.shape
                  have HS5 := Lib.hid (SV.of_od ho.1)
                  have HS6 := Lib.hid (SV.of_od ho.2)
                  clear ho
                  replace HX := Lib.hid (HX.out.keep hb)
                  replace HY := Lib.hid (HY.out.keep hb)
                  replace HP := Lib.hid (HP.out.keep hb)
                  replace HQ := Lib.hid (HQ.out.keep hb)
                  replace HK := Lib.hid (HK.out.keep hb)
                  replace HS3 := Lib.hid (HS3.out.keep hb)
                  replace HS4 := Lib.hid (HS4.out.keep hb)
                  replace HR4 := Lib.hid (HR4.out.keep hb)
                  replace HB := bel_tr HB hb
                  clear hb
                  refine hK _ _ HK.out ?_
                  clear hK K
                  have HR5 := Lib.hid (zero_box w9)
                  have HL5 : Hid (w.heap.size + 1 < w9.heap.size) := lt_of_cell HK.out.2.1
                  have H45 : Hid (g4 ≠ w9.heap.size) := Nat.ne_of_lt HR4.out.lt
                  have hb := bel_box w9 (cbox (.slice none 0 0) (.slice none 0 0))
                  replace HX := Lib.hid (HX.out.keep hb)
                  replace HY := Lib.hid (HY.out.keep hb)
                  replace HP := Lib.hid (HP.out.keep hb)
                  replace HQ := Lib.hid (HQ.out.keep hb)
                  replace HK := Lib.hid (HK.out.keep hb)
                  replace HS3 := Lib.hid (HS3.out.keep hb)
                  replace HS4 := Lib.hid (HS4.out.keep hb)
                  replace HR4 := Lib.hid (HR4.out.keep hb)
                  replace HS5 := Lib.hid (HS5.out.keep hb)
                  replace HS6 := Lib.hid (HS6.out.keep hb)
                  replace HB := bel_tr HB hb
                  clear hb
                  refine Sch.tree_e rfl rfl (fun K hK => ?_)
                  go_wp2_with fail
                  refine hK _ _ HK.out ?_
                  clear hK K
                  generalize w9.alloc (cbox (.slice none 0 0) (.slice none 0 0)) = w10 at *
                  generalize w9.heap.size = g5 at *
                  obtain ⟨⟨u0, r0⟩, r1⟩ := HR4.out.wc 0 (by omega)
                  obtain ⟨⟨u1, r2⟩, r3⟩ := HR4.out.wc 1 (by omega)
                  have HT6 := Lib.hid (put_two (x := (.slice a3 xs.length n3)) (y := (.slice b3 ys.length m3)) HR4.out.wc)
                  have hk : Sb2 w.heap.size (w.heap.size + 1) (.slice a xs.length n) (.slice b ys.length m) (.slice p us.length j) (.slice q vs.length k) ((w10.setCell ⟨g4, 0, none⟩ (.slice a3 xs.length n3)).setCell ⟨g4, 1, none⟩ (.slice b3 ys.length m3)) := ⟨Bc.set (Bc.set HK.out.1 (by have h1 := HL4.out; omega)) (by have h1 := HL4.out; omega), Bc.set (Bc.set HK.out.2 (by have h1 := HL4.out; omega)) (by have h1 := HL4.out; omega)⟩
                  replace HS3 := Lib.hid (SV.put2 (y := (.slice a3 xs.length n3)) (z := (.slice b3 ys.length m3)) HS3.out HR4.out)
                  replace HS4 := Lib.hid (SV.put2 (y := (.slice a3 xs.length n3)) (z := (.slice b3 ys.length m3)) HS4.out HR4.out)
                  replace HS5 := Lib.hid (SV.put2 (y := (.slice a3 xs.length n3)) (z := (.slice b3 ys.length m3)) HS5.out HR4.out)
                  replace HS6 := Lib.hid (SV.put2 (y := (.slice a3 xs.length n3)) (z := (.slice b3 ys.length m3)) HS6.out HR4.out)
                  replace HX := Lib.hid (row_put2 (y := (.slice a3 xs.length n3)) (z := (.slice b3 ys.length m3)) HX.out HR4.out)
                  replace HY := Lib.hid (row_put2 (y := (.slice a3 xs.length n3)) (z := (.slice b3 ys.length m3)) HY.out HR4.out)
                  replace HP := Lib.hid (row_put2 (y := (.slice a3 xs.length n3)) (z := (.slice b3 ys.length m3)) HP.out HR4.out)
                  replace HQ := Lib.hid (row_put2 (y := (.slice a3 xs.length n3)) (z := (.slice b3 ys.length m3)) HQ.out HR4.out)
                  replace HB : Hid (Below w.heap.size w ((w10.setCell ⟨g4, 0, none⟩ (.slice a3 xs.length n3)).setCell ⟨g4, 1, none⟩ (.slice b3 ys.length m3))) := below_put HB.out (by have h1 := HL4.out; omega)
                  replace HR5 := Lib.hid (Rc.set (Rc.set HR5.out (by have := H45.out; omega)) (by have := H45.out; omega) : Rc ((w10.setCell ⟨g4, 0, none⟩ (.slice a3 xs.length n3)).setCell ⟨g4, 1, none⟩ (.slice b3 ys.length m3)) g5)
                  replace HK := Lib.hid hk
                  clear hk
                  refine Sch.tree_e rfl rfl (fun K hK => ?_)
                  go_wp2_with fail
                  refine hK _ _ HK.out ?_
                  clear hK K r0 r1 r2 r3
                  generalize ((w10.setCell ⟨g4, 0, none⟩ (.slice a3 xs.length n3)).setCell ⟨g4, 1, none⟩ (.slice b3 ys.length m3)) = w11 at *
                  obtain ⟨⟨u0, r0⟩, r1⟩ := HR5.out.wc 0 (by omega)
                  obtain ⟨⟨u1, r2⟩, r3⟩ := HR5.out.wc 1 (by omega)
                  have HT7 := Lib.hid (put_two (x := (.slice a4 us.length n4)) (y := (.slice b4 vs.length m4)) HR5.out.wc)
                  have hk : Sb2 w.heap.size (w.heap.size + 1) (.slice a xs.length n) (.slice b ys.length m) (.slice p us.length j) (.slice q vs.length k) ((w11.setCell ⟨g5, 0, none⟩ (.slice a4 us.length n4)).setCell ⟨g5, 1, none⟩ (.slice b4 vs.length m4)) := ⟨Bc.set (Bc.set HK.out.1 (by have h1 := HL5.out; omega)) (by have h1 := HL5.out; omega), Bc.set (Bc.set HK.out.2 (by have h1 := HL5.out; omega)) (by have h1 := HL5.out; omega)⟩
                  replace HS3 := Lib.hid (SV.put2 (y := (.slice a4 us.length n4)) (z := (.slice b4 vs.length m4)) HS3.out HR5.out)
                  replace HS4 := Lib.hid (SV.put2 (y := (.slice a4 us.length n4)) (z := (.slice b4 vs.length m4)) HS4.out HR5.out)
                  replace HS5 := Lib.hid (SV.put2 (y := (.slice a4 us.length n4)) (z := (.slice b4 vs.length m4)) HS5.out HR5.out)
                  replace HS6 := Lib.hid (SV.put2 (y := (.slice a4 us.length n4)) (z := (.slice b4 vs.length m4)) HS6.out HR5.out)
                  replace HX := Lib.hid (row_put2 (y := (.slice a4 us.length n4)) (z := (.slice b4 vs.length m4)) HX.out HR5.out)
                  replace HY := Lib.hid (row_put2 (y := (.slice a4 us.length n4)) (z := (.slice b4 vs.length m4)) HY.out HR5.out)
                  replace HP := Lib.hid (row_put2 (y := (.slice a4 us.length n4)) (z := (.slice b4 vs.length m4)) HP.out HR5.out)
                  replace HQ := Lib.hid (row_put2 (y := (.slice a4 us.length n4)) (z := (.slice b4 vs.length m4)) HQ.out HR5.out)
                  replace HB : Hid (Below w.heap.size w ((w11.setCell ⟨g5, 0, none⟩ (.slice a4 us.length n4)).setCell ⟨g5, 1, none⟩ (.slice b4 vs.length m4))) := below_put HB.out (by have h1 := HL5.out; omega)
                  replace HT6 := Lib.hid (Bc.set (Bc.set HT6.out (by have := H45.out; omega)) (by have := H45.out; omega) : Bc ((w11.setCell ⟨g5, 0, none⟩ (.slice a4 us.length n4)).setCell ⟨g5, 1, none⟩ (.slice b4 vs.length m4)) g4 _ _)
                  replace HK := Lib.hid hk
                  clear hk
                  refine Sch.tree_e rfl rfl (fun K hK => ?_)
                  go_wp2_with fail
                  refine hK _ _ HK.out ?_
                  clear hK K r0 r1 r2 r3
                  generalize ((w11.setCell ⟨g5, 0, none⟩ (.slice a4 us.length n4)).setCell ⟨g5, 1, none⟩ (.slice b4 vs.length m4)) = w12 at *
                  refine Sch.tree_n ?_
                  go_wp2_with fail
                  go_meet
                  case rel => exact ⟨_, _, _, _, _, _, rfl, rfl, ⟨HK.out.1, HK.out.2, HT6.out, HT7.out⟩, HS3, HS4, HS5, HS6, HX, HY, HP, HQ, HB⟩
                · have HR5 := Lib.hid (zero_box w8)
                  have HL5 : Hid (w.heap.size + 1 < w8.heap.size) := lt_of_cell HK.out.2.1
                  have H45 : Hid (g4 ≠ w8.heap.size) := Nat.ne_of_lt HR4.out.lt
                  have hb := bel_box w8 (cbox (.slice none 0 0) (.slice none 0 0))
                  replace HX := Lib.hid (HX.out.keep hb)
                  replace HY := Lib.hid (HY.out.keep hb)
                  replace HP := Lib.hid (HP.out.keep hb)
                  replace HQ := Lib.hid (HQ.out.keep hb)
                  replace HK := Lib.hid (HK.out.keep hb)
                  replace HS3 := Lib.hid (HS3.out.keep hb)
                  replace HS4 := Lib.hid (HS4.out.keep hb)
                  replace HR4 := Lib.hid (HR4.out.keep hb)
                  replace HB := bel_tr HB hb
                  clear hb
                  refine Sch.tree_e rfl rfl (fun K hK => ?_)
                  go_wp2_with fail
                  refine hK _ _ HK.out ?_
                  clear hK K
                  generalize w8.alloc (cbox (.slice none 0 0) (.slice none 0 0)) = w9 at *
                  generalize w8.heap.size = g5 at *
                  refine Sch.tree_e rfl rfl (fun K hK => ?_)
                  go_wp2_with fail
                  refine (HO2.out _ HP.out HQ.out).mono ?_
                  rintro e w10 ⟨x4, y4, rfl, ho, hb⟩
                  obtain ⟨a4, n4, b4, m4, rfl, rfl⟩ := ho.shape
                  have HS5 := Lib.hid (SV.of_od ho.1)
                  have HS6 := Lib.hid (SV.of_od ho.2)
                  clear ho
                  replace HX := Lib.hid (HX.out.keep hb)
                  replace HY := Lib.hid (HY.out.keep hb)
                  replace HP := Lib.hid (HP.out.keep hb)
                  replace HQ := Lib.hid (HQ.out.keep hb)
                  replace HK := Lib.hid (HK.out.keep hb)
                  replace HS3 := Lib.hid (HS3.out.keep hb)
                  replace HS4 := Lib.hid (HS4.out.keep hb)
                  replace HR4 := Lib.hid (HR4.out.keep hb)
                  replace HR5 := Lib.hid (HR5.out.keep hb)
                  replace HB := bel_tr HB hb
                  clear hb
                  refine hK _ _ HK.out ?_
                  clear hK K
                  obtain ⟨⟨u0, r0⟩, r1⟩ := HR4.out.wc 0 (by omega)
                  obtain ⟨⟨u1, r2⟩, r3⟩ := HR4.out.wc 1 (by omega)
                  have HT6 := Lib.hid (put_two (x := (.slice a3 xs.length n3)) (y := (.slice b3 ys.length m3)) HR4.out.wc)
                  have hk : Sb2 w.heap.size (w.heap.size + 1) (.slice a xs.length n) (.slice b ys.length m) (.slice p us.length j) (.slice q vs.length k) ((w10.setCell ⟨g4, 0, none⟩ (.slice a3 xs.length n3)).setCell ⟨g4, 1, none⟩ (.slice b3 ys.length m3)) := ⟨Bc.set (Bc.set HK.out.1 (by have h1 := HL4.out; omega)) (by have h1 := HL4.out; omega), Bc.set (Bc.set HK.out.2 (by have h1 := HL4.out; omega)) (by have h1 := HL4.out; omega)⟩
                  replace HS3 := Lib.hid (SV.put2 (y := (.slice a3 xs.length n3)) (z := (.slice b3 ys.length m3)) HS3.out HR4.out)
                  replace HS4 := Lib.hid (SV.put2 (y := (.slice a3 xs.length n3)) (z := (.slice b3 ys.length m3)) HS4.out HR4.out)
                  replace HS5 := Lib.hid (SV.put2 (y := (.slice a3 xs.length n3)) (z := (.slice b3 ys.length m3)) HS5.out HR4.out)
                  replace HS6 := Lib.hid (SV.put2 (y := (.slice a3 xs.length n3)) (z := (.slice b3 ys.length m3)) HS6.out HR4.out)
                  replace HX := Lib.hid (row_put2 (y := (.slice a3 xs.length n3)) (z := (.slice b3 ys.length m3)) HX.out HR4.out)
                  replace HY := Lib.hid (row_put2 (y := (.slice a3 xs.length n3)) (z := (.slice b3 ys.length m3)) HY.out HR4.out)
                  replace HP := Lib.hid (row_put2 (y := (.slice a3 xs.length n3)) (z := (.slice b3 ys.length m3)) HP.out HR4.out)
                  replace HQ := Lib.hid (row_put2 (y := (.slice a3 xs.length n3)) (z := (.slice b3 ys.length m3)) HQ.out HR4.out)
                  replace HB : Hid (Below w.heap.size w ((w10.setCell ⟨g4, 0, none⟩ (.slice a3 xs.length n3)).setCell ⟨g4, 1, none⟩ (.slice b3 ys.length m3))) := below_put HB.out (by have h1 := HL4.out; omega)
                  replace HR5 := Lib.hid (Rc.set (Rc.set HR5.out (by have := H45.out; omega)) (by have := H45.out; omega) : Rc ((w10.setCell ⟨g4, 0, none⟩ (.slice a3 xs.length n3)).setCell ⟨g4, 1, none⟩ (.slice b3 ys.length m3)) g5)
                  replace HK := Lib.hid hk
                  clear hk
                  refine Sch.tree_e rfl rfl (fun K hK => ?_)
                  go_wp2_with fail
                  refine hK _ _ HK.out ?_
                  clear hK K r0 r1 r2 r3
                  generalize ((w10.setCell ⟨g4, 0, none⟩ (.slice a3 xs.length n3)).setCell ⟨g4, 1, none⟩ (.slice b3 ys.length m3)) = w11 at *
                  obtain ⟨⟨u0, r0⟩, r1⟩ := HR5.out.wc 0 (by omega)
                  obtain ⟨⟨u1, r2⟩, r3⟩ := HR5.out.wc 1 (by omega)
                  have HT7 := Lib.hid (put_two (x := (.slice a4 us.length n4)) (y := (.slice b4 vs.length m4)) HR5.out.wc)
                  have hk : Sb2 w.heap.size (w.heap.size + 1) (.slice a xs.length n) (.slice b ys.length m) (.slice p us.length j) (.slice q vs.length k) ((w11.setCell ⟨g5, 0, none⟩ (.slice a4 us.length n4)).setCell ⟨g5, 1, none⟩ (.slice b4 vs.length m4)) := ⟨Bc.set (Bc.set HK.out.1 (by have h1 := HL5.out; omega)) (by have h1 := HL5.out; omega), Bc.set (Bc.set HK.out.2 (by have h1 := HL5.out; omega)) (by have h1 := HL5.out; omega)⟩
                  replace HS3 := Lib.hid (SV.put2 (y := (.slice a4 us.length n4)) (z := (.slice b4 vs.length m4)) HS3.out HR5.out)
                  replace HS4 := Lib.hid (SV.put2 (y := (.slice a4 us.length n4)) (z := (.slice b4 vs.length m4)) HS4.out HR5.out)
                  replace HS5 := Lib.hid (SV.put2 (y := (.slice a4 us.length n4)) (z := (.slice b4 vs.length m4)) HS5.out HR5.out)
                  replace HS6 := Lib.hid (SV.put2 (y := (.slice a4 us.length n4)) (z := (.slice b4 vs.length m4)) HS6.out HR5.out)
                  replace HX := Lib.hid (row_put2 (y := (.slice a4 us.length n4)) (z := (.slice b4 vs.length m4)) HX.out HR5.out)
                  replace HY := Lib.hid (row_put2 (y := (.slice a4 us.length n4)) (z := (.slice b4 vs.length m4)) HY.out HR5.out)
                  replace HP := Lib.hid (row_put2 (y := (.slice a4 us.length n4)) (z := (.slice b4 vs.length m4)) HP.out HR5.out)
                  replace HQ := Lib.hid (row_put2 (y := (.slice a4 us.length n4)) (z := (.slice b4 vs.length m4)) HQ.out HR5.out)
                  replace HB : Hid (Below w.heap.size w ((w11.setCell ⟨g5, 0, none⟩ (.slice a4 us.length n4)).setCell ⟨g5, 1, none⟩ (.slice b4 vs.length m4))) := below_put HB.out (by have h1 := HL5.out; omega)
                  replace HT6 := Lib.hid (Bc.set (Bc.set HT6.out (by have := H45.out; omega)) (by have := H45.out; omega) : Bc ((w11.setCell ⟨g5, 0, none⟩ (.slice a4 us.length n4)).setCell ⟨g5, 1, none⟩ (.slice b4 vs.length m4)) g4 _ _)
                  replace HK := Lib.hid hk
                  clear hk
                  refine Sch.tree_e rfl rfl (fun K hK => ?_)
                  go_wp2_with fail
                  refine hK _ _ HK.out ?_
                  clear hK K r0 r1 r2 r3
                  generalize ((w11.setCell ⟨g5, 0, none⟩ (.slice a4 us.length n4)).setCell ⟨g5, 1, none⟩ (.slice b4 vs.length m4)) = w12 at *
                  refine Sch.tree_n ?_
                  go_wp2_with fail
                  go_meet
                  case rel => exact ⟨_, _, _, _, _, _, rfl, rfl, ⟨HK.out.1, HK.out.2, HT6.out, HT7.out⟩, HS3, HS4, HS5, HS6, HX, HY, HP, HQ, HB⟩
              · have HR5 := Lib.hid (zero_box w7)
                have HL5 : Hid (w.heap.size + 1 < w7.heap.size) := lt_of_cell HK.out.2.1
                have hb := bel_box w7 (cbox (.slice none 0 0) (.slice none 0 0))
                replace HX := Lib.hid (HX.out.keep hb)
                replace HY := Lib.hid (HY.out.keep hb)
                replace HP := Lib.hid (HP.out.keep hb)
                replace HQ := Lib.hid (HQ.out.keep hb)
                replace HK := Lib.hid (HK.out.keep hb)
                replace HS3 := Lib.hid (HS3.out.keep hb)
                replace HS4 := Lib.hid (HS4.out.keep hb)
                replace HB := bel_tr HB hb
                clear hb
                refine Sch.tree_e rfl rfl (fun K hK => ?_)
                go_wp2_with fail
                refine hK _ _ HK.out ?_
                clear hK K
                generalize w7.alloc (cbox (.slice none 0 0) (.slice none 0 0)) = w8 at *
                generalize w7.heap.size = g5 at *
                refine Sch.tree_two ?_ ?_
                · refine Sch.tree_e rfl rfl (fun K hK => ?_)
                  go_wp2_with fail
                  refine (HO2.out _ HP.out HQ.out).mono ?_
                  rintro e w9 ⟨x4, y4, rfl, ho, hb⟩
                  obtain ⟨a4, n4, b4, m4, rfl, rfl⟩ := ho.shape
                  have HS5 := Lib.hid (SV.of_od ho.1)
                  have HS6 := Lib.hid (SV.of_od ho.2)
                  clear ho
                  replace HX := Lib.hid (HX.out.keep hb)
                  replace HY := Lib.hid (HY.out.keep hb)
                  replace HP := Lib.hid (HP.out.keep hb)
                  replace HQ := Lib.hid (HQ.out.keep hb)
                  replace HK := Lib.hid (HK.out.keep hb)
                  replace HS3 := Lib.hid (HS3.out.keep hb)
                  replace HS4 := Lib.hid (HS4.out.keep hb)
                  replace HR5 := Lib.hid (HR5.out.keep hb)
                  replace HB := bel_tr HB hb
                  clear hb
                  refine hK _ _ HK.out ?_
                  clear hK K
                  have HR4 := Lib.hid (zero_box w9)
                  have HL4 : Hid (w.heap.size + 1 < w9.heap.size) := lt_of_cell HK.out.2.1
                  have H45 : Hid (g5 ≠ w9.heap.size) := Nat.ne_of_lt HR5.out.lt
                  have hb := bel_box w9 (cbox (.slice none 0 0) (.slice none 0 0))
                  replace HX := Lib.hid (HX.out.keep hb)
                  replace HY := Lib.hid (HY.out.keep hb)
                  replace HP := Lib.hid (HP.out.keep hb)
                  replace HQ := Lib.hid (HQ.out.keep hb)
                  replace HK := Lib.hid (HK.out.keep hb)
                  replace HS3 := Lib.hid (HS3.out.keep hb)
                  replace HS4 := Lib.hid (HS4.out.keep hb)
                  replace HR5 := Lib.hid (HR5.out.keep hb)
                  replace HS5 := Lib.hid (HS5.out.keep hb)
                  replace HS6 := Lib.hid (HS6.out.keep hb)
                  replace HB := bel_tr HB hb
                  clear hb
                  refine Sch.tree_e rfl rfl (fun K hK => ?_)
                  go_wp2_with fail
                  refine hK _ _ HK.out ?_
                  clear hK K
                  generalize w9.alloc (cbox (.slice none 0 0) (.slice none 0 0)) = w10 at *
                  generalize w9.heap.size = g4 at *
                  obtain ⟨⟨u0, r0⟩, r1⟩ := HR4.out.wc 0 (by omega)
                  obtain ⟨⟨u1, r2⟩, r3⟩ := HR4.out.wc 1 (by omega)
                  have HT6 := Lib.hid (put_two (x := (.slice a3 xs.length n3)) (y := (.slice b3 ys.length m3)) HR4.out.wc)
                  have hk : Sb2 w.heap.size (w.heap.size + 1) (.slice a xs.length n) (.slice b ys.length m) (.slice p us.length j) (.slice q vs.length k) ((w10.setCell ⟨g4, 0, none⟩ (.slice a3 xs.length n3)).setCell ⟨g4, 1, none⟩ (.slice b3 ys.length m3)) := ⟨Bc.set (Bc.set HK.out.1 (by have h1 := HL4.out; omega)) (by have h1 := HL4.out; omega), Bc.set (Bc.set HK.out.2 (by have h1 := HL4.out; omega)) (by have h1 := HL4.out; omega)⟩
                  replace HS3 := Lib.hid (SV.put2 (y := (.slice a3 xs.length n3)) (z := (.slice b3 ys.length m3)) HS3.out HR4.out)
                  replace HS4 := Lib.hid (SV.put2 (y := (.slice a3 xs.length n3)) (z := (.slice b3 ys.length m3)) HS4.out HR4.out)
                  replace HS5 := Lib.hid (SV.put2 (y := (.slice a3 xs.length n3)) (z := (.slice b3 ys.length m3)) HS5.out HR4.out)
                  replace HS6 := Lib.hid (SV.put2 (y := (.slice a3 xs.length n3)) (z := (.slice b3 ys.length m3)) HS6.out HR4.out)
                  replace HX := Lib.hid (row_put2 (y := (.slice a3 xs.length n3)) (z := (.slice b3 ys.length m3)) HX.out HR4.out)
                  replace HY := Lib.hid (row_put2 (y := (.slice a3 xs.length n3)) (z := (.slice b3 ys.length m3)) HY.out HR4.out)
                  replace HP := Lib.hid (row_put2 (y := (.slice a3 xs.length n3)) (z := (.slice b3 ys.length m3)) HP.out HR4.out)
                  replace HQ := Lib.hid (row_put2 (y := (.slice a3 xs.length n3)) (z := (.slice b3 ys.length m3)) HQ.out HR4.out)
                  replace HB : Hid (Below w.heap.size w ((w10.setCell ⟨g4, 0, none⟩ (.slice a3 xs.length n3)).setCell ⟨g4, 1, none⟩ (.slice b3 ys.length m3))) := below_put HB.out (by have h1 := HL4.out; omega)
                  replace HR5 := Lib.hid (Rc.set (Rc.set HR5.out (by have := H45.out; omega)) (by have := H45.out; omega) : Rc ((w10.setCell ⟨g4, 0, none⟩ (.slice a3 xs.length n3)).setCell ⟨g4, 1, none⟩ (.slice b3 ys.length m3)) g5)
                  replace HK := Lib.hid hk
                  clear hk
                  refine Sch.tree_e rfl rfl (fun K hK => ?_)
                  go_wp2_with fail
                  refine hK _ _ HK.out ?_
                  clear hK K r0 r1 r2 r3
                  generalize ((w10.setCell ⟨g4, 0, none⟩ (.slice a3 xs.length n3)).setCell ⟨g4, 1, none⟩ (.slice b3 ys.length m3)) = w11 at *
                  obtain ⟨⟨u0, r0⟩, r1⟩ := HR5.out.wc 0 (by omega)
                  obtain ⟨⟨u1, r2⟩, r3⟩ := HR5.out.wc 1 (by omega)
                  have HT7 := Lib.hid (put_two (x := (.slice a4 us.length n4)) (y := (.slice b4 vs.length m4)) HR5.out.wc)
                  have hk : Sb2 w.heap.size (w.heap.size + 1) (.slice a xs.length n) (.slice b ys.length m) (.slice p us.length j) (.slice q vs.length k) ((w11.setCell ⟨g5, 0, none⟩ (.slice a4 us.length n4)).setCell ⟨g5, 1, none⟩ (.slice b4 vs.length m4)) := ⟨Bc.set (Bc.set HK.out.1 (by have h1 := HL5.out; omega)) (by have h1 := HL5.out; omega), Bc.set (Bc.set HK.out.2 (by have h1 := HL5.out; omega)) (by have h1 := HL5.out; omega)⟩
                  replace HS3 := Lib.hid (SV.put2 (y := (.slice a4 us.length n4)) (z := (.slice b4 vs.length m4)) HS3.out HR5.out)
                  replace HS4 := Lib.hid (SV.put2 (y := (.slice a4 us.length n4)) (z := (.slice b4 vs.length m4)) HS4.out HR5.out)
                  replace HS5 := Lib.hid (SV.put2 (y := (.slice a4 us.length n4)) (z := (.slice b4 vs.length m4)) HS5.out HR5.out)
                  replace HS6 := Lib.hid (SV.put2 (y := (.slice a4 us.length n4)) (z := (.slice b4 vs.length m4)) HS6.out HR5.out)
                  replace HX := Lib.hid (row_put2 (y := (.slice a4 us.length n4)) (z := (.slice b4 vs.length m4)) HX.out HR5.out)
                  replace HY := Lib.hid (row_put2 (y := (.slice a4 us.length n4)) (z := (.slice b4 vs.length m4)) HY.out HR5.out)
                  replace HP := Lib.hid (row_put2 (y := (.slice a4 us.length n4)) (z := (.slice b4 vs.length m4)) HP.out HR5.out)
                  replace HQ := Lib.hid (row_put2 (y := (.slice a4 us.length n4)) (z := (.slice b4 vs.length m4)) HQ.out HR5.out)
                  replace HB : Hid (Below w.heap.size w ((w11.setCell ⟨g5, 0, none⟩ (.slice a4 us.length n4)).setCell ⟨g5, 1, none⟩ (.slice b4 vs.length m4))) := below_put HB.out (by have h1 := HL5.out; omega)
                  replace HT6 := Lib.hid (Bc.set (Bc.set HT6.out (by have := H45.out; omega)) (by have := H45.out; omega) : Bc ((w11.setCell ⟨g5, 0, none⟩ (.slice a4 us.length n4)).setCell ⟨g5, 1, none⟩ (.slice b4 vs.length m4)) g4 _ _)
                  replace HK := Lib.hid hk
                  clear hk
                  refine Sch.tree_e rfl rfl (fun K hK => ?_)
                  go_wp2_with fail
                  refine hK _ _ HK.out ?_
                  clear hK K r0 r1 r2 r3
                  generalize ((w11.setCell ⟨g5, 0, none⟩ (.slice a4 us.length n4)).setCell ⟨g5, 1, none⟩ (.slice b4 vs.length m4)) = w12 at *
                  refine Sch.tree_n ?_
                  go_wp2_with fail
                  go_meet
                  case rel => exact ⟨_, _, _, _, _, _, rfl, rfl, ⟨HK.out.1, HK.out.2, HT6.out, HT7.out⟩, HS3, HS4, HS5, HS6, HX, HY, HP, HQ, HB⟩
                · have HR4 := Lib.hid (zero_box w8)
                  have HL4 : Hid (w.heap.size + 1 < w8.heap.size) := lt_of_cell HK.out.2.1
                  have H45 : Hid (g5 ≠ w8.heap.size) := Nat.ne_of_lt HR5.out.lt
                  have hb := bel_box w8 (cbox (.slice none 0 0) (.slice none 0 0))
                  replace HX := Lib.hid (HX.out.keep hb)
                  replace HY := Lib.hid (HY.out.keep hb)
                  replace HP := Lib.hid (HP.out.keep hb)
                  replace HQ := Lib.hid (HQ.out.keep hb)
                  replace HK := Lib.hid (HK.out.keep hb)
                  replace HS3 := Lib.hid (HS3.out.keep hb)
                  replace HS4 := Lib.hid (HS4.out.keep hb)
                  replace HR5 := Lib.hid (HR5.out.keep hb)
                  replace HB := bel_tr HB hb
                  clear hb
                  refine Sch.tree_e rfl rfl (fun K hK => ?_)
                  go_wp2_with fail
                  refine hK _ _ HK.out ?_
                  clear hK K
                  generalize w8.alloc (cbox (.slice none 0 0) (.slice none 0 0)) = w9 at *
                  generalize w8.heap.size = g4 at *
                  refine Sch.tree_e rfl rfl (fun K hK => ?_)
                  go_wp2_with fail
                  refine (HO2.out _ HP.out HQ.out).mono ?_
                  rintro e w10 ⟨x4, y4, rfl, ho, hb⟩
                  obtain ⟨a4, n4, b4, m4, rfl, rfl⟩ := ho.shape
                  have HS5 := Lib.hid (SV.of_od ho.1)
                  have HS6 := Lib.hid (SV.of_od ho.2)
                  clear ho
                  replace HX := Lib.hid (HX.out.keep hb)
                  replace HY := Lib.hid (HY.out.keep hb)
                  replace HP := Lib.hid (HP.out.keep hb)
                  replace HQ := Lib.hid (HQ.out.keep hb)
                  replace HK := Lib.hid (HK.out.keep hb)
                  replace HS3 := Lib.hid (HS3.out.keep hb)
                  replace HS4 := Lib.hid (HS4.out.keep hb)
                  replace HR5 := Lib.hid (HR5.out.keep hb)
                  replace HR4 := Lib.hid (HR4.out.keep hb)
                  replace HB := bel_tr HB hb
                  clear hb
                  refine hK _ _ HK.out ?_
                  clear hK K
                  obtain ⟨⟨u0, r0⟩, r1⟩ := HR4.out.wc 0 (by omega)
                  obtain ⟨⟨u1, r2⟩, r3⟩ := HR4.out.wc 1 (by omega)
                  have HT6 := Lib.hid (put_two (x := (.slice a3 xs.length n3)) (y := (.slice b3 ys.length m3)) HR4.out.wc)
                  have hk : Sb2 w.heap.size (w.heap.size + 1) (.slice a xs.length n) (.slice b ys.length m) (.slice p us.length j) (.slice q vs.length k) ((w10.setCell ⟨g4, 0, none⟩ (.slice a3 xs.length n3)).setCell ⟨g4, 1, none⟩ (.slice b3 ys.length m3)) := ⟨Bc.set (Bc.set HK.out.1 (by have h1 := HL4.out; omega)) (by have h1 := HL4.out; omega), Bc.set (Bc.set HK.out.2 (by have h1 := HL4.out; omega)) (by have h1 := HL4.out; omega)⟩
                  replace HS3 := Lib.hid (SV.put2 (y := (.slice a3 xs.length n3)) (z := (.slice b3 ys.length m3)) HS3.out HR4.out)
                  replace HS4 := Lib.hid (SV.put2 (y := (.slice a3 xs.length n3)) (z := (.slice b3 ys.length m3)) HS4.out HR4.out)
                  replace HS5 := Lib.hid (SV.put2 (y := (.slice a3 xs.length n3)) (z := (.slice b3 ys.length m3)) HS5.out HR4.out)
                  replace HS6 := Lib.hid (SV.put2 (y := (.slice a3 xs.length n3)) (z := (.slice b3 ys.length m3)) HS6.out HR4.out)
                  replace HX := Lib.hid (row_put2 (y := (.slice a3 xs.length n3)) (z := (.slice b3 ys.length m3)) HX.out HR4.out)
                  replace HY := Lib.hid (row_put2 (y := (.slice a3 xs.length n3)) (z := (.slice b3 ys.length m3)) HY.out HR4.out)
                  replace HP := Lib.hid (row_put2 (y := (.slice a3 xs.length n3)) (z := (.slice b3 ys.length m3)) HP.out HR4.out)
                  replace HQ := Lib.hid (row_put2 (y := (.slice a3 xs.length n3)) (z := (.slice b3 ys.length m3)) HQ.out HR4.out)
                  replace HB : Hid (Below w.heap.size w ((w10.setCell ⟨g4, 0, none⟩ (.slice a3 xs.length n3)).setCell ⟨g4, 1, none⟩ (.slice b3 ys.length m3))) := below_put HB.out (by have h1 := HL4.out; omega)
                  replace HR5 := Lib.hid (Rc.set (Rc.set HR5.out (by have := H45.out; omega)) (by have := H45.out; omega) : Rc ((w10.setCell ⟨g4, 0, none⟩ (.slice a3 xs.length n3)).setCell ⟨g4, 1, none⟩ (.slice b3 ys.length m3)) g5)
                  replace HK := Lib.hid hk
                  clear hk
                  refine Sch.tree_e rfl rfl (fun K hK => ?_)
                  go_wp2_with fail
                  refine hK _ _ HK.out ?_
                  clear hK K r0 r1 r2 r3
                  generalize ((w10.setCell ⟨g4, 0, none⟩ (.slice a3 xs.length n3)).setCell ⟨g4, 1, none⟩ (.slice b3 ys.length m3)) = w11 at *
                  obtain ⟨⟨u0, r0⟩, r1⟩ := HR5.out.wc 0 (by omega)
                  obtain ⟨⟨u1, r2⟩, r3⟩ := HR5.out.wc 1 (by omega)
                  have HT7 := Lib.hid (put_two (x := (.slice a4 us.length n4)) (y := (.slice b4 vs.length m4)) HR5.out.wc)
                  have hk : Sb2 w.heap.size (w.heap.size + 1) (.slice a xs.length n) (.slice b ys.length m) (.slice p us.length j) (.slice q vs.length k) ((w11.setCell ⟨g5, 0, none⟩ (.slice a4 us.length n4)).setCell ⟨g5, 1, none⟩ (.slice b4 vs.length m4)) := ⟨Bc.set (Bc.set HK.out.1 (by have h1 := HL5.out; omega)) (by have h1 := HL5.out; omega), Bc.set (Bc.set HK.out.2 (by have h1 := HL5.out; omega)) (by have h1 := HL5.out; omega)⟩
                  replace HS3 := Lib.hid (SV.put2 (y := (.slice a4 us.length n4)) (z := (.slice b4 vs.length m4)) HS3.out HR5.out)
                  replace HS4 := Lib.hid (SV.put2 (y := (.slice a4 us.length n4)) (z := (.slice b4 vs.length m4)) HS4.out HR5.out)
                  replace HS5 := Lib.hid (SV.put2 (y := (.slice a4 us.length n4)) (z := (.slice b4 vs.length m4)) HS5.out HR5.out)
                  replace HS6 := Lib.hid (SV.put2 (y := (.slice a4 us.length n4)) (z := (.slice b4 vs.length m4)) HS6.out HR5.out)
                  replace HX := Lib.hid (row_put2 (y := (.slice a4 us.length n4)) (z := (.slice b4 vs.length m4)) HX.out HR5.out)
                  replace HY := Lib.hid (row_put2 (y := (.slice a4 us.length n4)) (z := (.slice b4 vs.length m4)) HY.out HR5.out)
                  replace HP := Lib.hid (row_put2 (y := (.slice a4 us.length n4)) (z := (.slice b4 vs.length m4)) HP.out HR5.out)
                  replace HQ := Lib.hid (row_put2 (y := (.slice a4 us.length n4)) (z := (.slice b4 vs.length m4)) HQ.out HR5.out)
                  replace HB : Hid (Below w.heap.size w ((w11.setCell ⟨g5, 0, none⟩ (.slice a4 us.length n4)).setCell ⟨g5, 1, none⟩ (.slice b4 vs.length m4))) := below_put HB.out (by have h1 := HL5.out; omega)
                  replace HT6 := Lib.hid (Bc.set (Bc.set HT6.out (by have := H45.out; omega)) (by have := H45.out; omega) : Bc ((w11.setCell ⟨g5, 0, none⟩ (.slice a4 us.length n4)).setCell ⟨g5, 1, none⟩ (.slice b4 vs.length m4)) g4 _ _)
                  replace HK := Lib.hid hk
                  clear hk
                  refine Sch.tree_e rfl rfl (fun K hK => ?_)
                  go_wp2_with fail
                  refine hK _ _ HK.out ?_
                  clear hK K r0 r1 r2 r3
                  generalize ((w11.setCell ⟨g5, 0, none⟩ (.slice a4 us.length n4)).setCell ⟨g5, 1, none⟩ (.slice b4 vs.length m4)) = w12 at *
                  refine Sch.tree_n ?_
                  go_wp2_with fail
                  go_meet
                  case rel => exact ⟨_, _, _, _, _, _, rfl, rfl, ⟨HK.out.1, HK.out.2, HT6.out, HT7.out⟩, HS3, HS4, HS5, HS6, HX, HY, HP, HQ, HB⟩
            · have HR4 := Lib.hid (zero_box w6)
              have HL4 : Hid (w.heap.size + 1 < w6.heap.size) := lt_of_cell HK.out.2.1
              have hb := bel_box w6 (cbox (.slice none 0 0) (.slice none 0 0))
              replace HX := Lib.hid (HX.out.keep hb)
              replace HY := Lib.hid (HY.out.keep hb)
              replace HP := Lib.hid (HP.out.keep hb)
              replace HQ := Lib.hid (HQ.out.keep hb)
              replace HK := Lib.hid (HK.out.keep hb)
              replace HB := bel_tr HB hb
              clear hb
              refine Sch.tree_e rfl rfl (fun K hK => ?_)
              go_wp2_with fail
              refine hK _ _ HK.out ?_
              clear hK K
              generalize w6.alloc (cbox (.slice none 0 0) (.slice none 0 0)) = w7 at *
              generalize w6.heap.size = g4 at *
              refine Sch.tree_two ?_ ?_
              · refine Sch.tree_e rfl rfl (fun K hK => ?_)
                go_wp2_with fail
                refine (HO1.out _ HX.out HY.out).mono ?_
                rintro e w8 ⟨x3, y3, rfl, ho, hb⟩
                obtain ⟨a3, n3, b3, m3, rfl, rfl⟩ := ho.shape
                have HS3 := Lib.hid (SV.of_od ho.1)
                have HS4 := Lib.hid (SV.of_od ho.2)
                clear ho
                replace HX := Lib.hid (HX.out.keep hb)
                replace HY := Lib.hid (HY.out.keep hb)
                replace HP := Lib.hid (HP.out.keep hb)
                replace HQ := Lib.hid (HQ.out.keep hb)
                replace HK := Lib.hid (HK.out.keep hb)
                replace HR4 := Lib.hid (HR4.out.keep hb)
                replace HB := bel_tr HB hb
                clear hb
                refine hK _ _ HK.out ?_
                clear hK K
                refine Sch.tree_two ?_ ?_
                · refine Sch.tree_e rfl rfl (fun K hK => ?_)
                  go_wp2_with fail
                  refine (HO2.out _ HP.out HQ.out).mono ?_
                  rintro e w9 ⟨x4, y4, rfl, ho, hb⟩
                  obtain ⟨a4, n4, b4, m4, rfl, rfl⟩ := ho.shape
                  have HS5 := Lib.hid (SV.of_od ho.1)
                  have HS6 := Lib.hid (SV.of_od ho.2)
                  clear ho
                  replace HX := Lib.hid (HX.out.keep hb)
                  replace HY := Lib.hid (HY.out.keep hb)
                  replace HP := Lib.hid (HP.out.keep hb)
                  replace HQ := Lib.hid (HQ.out.keep hb)
                  replace HK := Lib.hid (HK.out.keep hb)
                  replace HR4 := Lib.hid (HR4.out.keep hb)
                  replace HS3 := Lib.hid (HS3.out.keep hb)
                  replace HS4 := Lib.hid (HS4.out.keep hb)
                  replace HB := bel_tr HB hb
                  clear hb
                  refine hK _ _ HK.out ?_
                  clear hK K
                  have HR5 := Lib.hid (zero_box w9)
                  have HL5 : Hid (w.heap.size + 1 < w9.heap.size) := lt_of_cell HK.out.2.1
                  have H45 : Hid (g4 ≠ w9.heap.size) := Nat.ne_of_lt HR4.out.lt
                  have hb := bel_box w9 (cbox (.slice none 0 0) (.slice none 0 0))
                  replace HX := Lib.hid (HX.out.keep hb)
                  replace HY := Lib.hid (HY.out.keep hb)
                  replace HP := Lib.hid (HP.out.keep hb)
                  replace HQ := Lib.hid (HQ.out.keep hb)
                  replace HK := Lib.hid (HK.out.keep hb)
                  replace HR4 := Lib.hid (HR4.out.keep hb)
                  replace HS3 := Lib.hid (HS3.out.keep hb)
                  replace HS4 := Lib.hid (HS4.out.keep hb)
                  replace HS5 := Lib.hid (HS5.out.keep hb)
                  replace HS6 := Lib.hid (HS6.out.keep hb)
                  replace HB := bel_tr HB hb
                  clear hb
                  refine Sch.tree_e rfl rfl (fun K hK => ?_)
                  go_wp2_with fail
                  refine hK _ _ HK.out ?_
                  clear hK K
                  generalize w9.alloc (cbox (.slice none 0 0) (.slice none 0 0)) = w10 at *
                  generalize w9.heap.size = g5 at *
                  obtain ⟨⟨u0, r0⟩, r1⟩ := HR4.out.wc 0 (by omega)
                  obtain ⟨⟨u1, r2⟩, r3⟩ := HR4.out.wc 1 (by omega)
                  have HT6 := Lib.hid (put_two (x := (.slice a3 xs.length n3)) (y := (.slice b3 ys.length m3)) HR4.out.wc)
                  have hk : Sb2 w.heap.size (w.heap.size + 1) (.slice a xs.length n) (.slice b ys.length m) (.slice p us.length j) (.slice q vs.length k) ((w10.setCell ⟨g4, 0, none⟩ (.slice a3 xs.length n3)).setCell ⟨g4, 1, none⟩ (.slice b3 ys.length m3)) := ⟨Bc.set (Bc.set HK.out.1 (by have h1 := HL4.out; omega)) (by have h1 := HL4.out; omega), Bc.set (Bc.set HK.out.2 (by have h1 := HL4.out; omega)) (by have h1 := HL4.out; omega)⟩
                  replace HS3 := Lib.hid (SV.put2 (y := (.slice a3 xs.length n3)) (z := (.slice b3 ys.length m3)) HS3.out HR4.out)
                  replace HS4 := Lib.hid (SV.put2 (y := (.slice a3 xs.length n3)) (z := (.slice b3 ys.length m3)) HS4.out HR4.out)
                  replace HS5 := Lib.hid (SV.put2 (y := (.slice a3 xs.length n3)) (z := (.slice b3 ys.length m3)) HS5.out HR4.out)
                  replace HS6 := Lib.hid (SV.put2 (y := (.slice a3 xs.length n3)) (z := (.slice b3 ys.length m3)) HS6.out HR4.out)
                  replace HX := Lib.hid (row_put2 (y := (.slice a3 xs.length n3)) (z := (.slice b3 ys.length m3)) HX.out HR4.out)
                  replace HY := Lib.hid (row_put2 (y := (.slice a3 xs.length n3)) (z := (.slice b3 ys.length m3)) HY.out HR4.out)
                  replace HP := Lib.hid (row_put2 (y := (.slice a3 xs.length n3)) (z := (.slice b3 ys.length m3)) HP.out HR4.out)
                  replace HQ := Lib.hid (row_put2 (y := (.slice a3 xs.length n3)) (z := (.slice b3 ys.length m3)) HQ.out HR4.out)
                  replace HB : Hid (Below w.heap.size w ((w10.setCell ⟨g4, 0, none⟩ (.slice a3 xs.length n3)).setCell ⟨g4, 1, none⟩ (.slice b3 ys.length m3))) := below_put HB.out (by have h1 := HL4.out; omega)
                  replace HR5 := Lib.hid (Rc.set (Rc.set HR5.out (by have := H45.out; omega)) (by have := H45.out; omega) : Rc ((w10.setCell ⟨g4, 0, none⟩ (.slice a3 xs.length n3)).setCell ⟨g4, 1, none⟩ (.slice b3 ys.length m3)) g5)
                  replace HK := Lib.hid hk
                  clear hk
                  refine Sch.tree_e rfl rfl (fun K hK => ?_)
                  go_wp2_with fail
                  refine hK _ _ HK.out ?_
                  clear hK K r0 r1 r2 r3
                  generalize ((w10.setCell ⟨g4, 0, none⟩ (.slice a3 xs.length n3)).setCell ⟨g4, 1, none⟩ (.slice b3 ys.length m3)) = w11 at *
                  obtain ⟨⟨u0, r0⟩, r1⟩ := HR5.out.wc 0 (by omega)
                  obtain ⟨⟨u1, r2⟩, r3⟩ := HR5.out.wc 1 (by omega)
                  have HT7 := Lib.hid (put_two (x := (.slice a4 us.length n4)) (y := (.slice b4 vs.length m4)) HR5.out.wc)
                  have hk : Sb2 w.heap.size (w.heap.size + 1) (.slice a xs.length n) (.slice b ys.length m) (.slice p us.length j) (.slice q vs.length k) ((w11.setCell ⟨g5, 0, none⟩ (.slice a4 us.length n4)).setCell ⟨g5, 1, none⟩ (.slice b4 vs.length m4)) := ⟨Bc.set (Bc.set HK.out.1 (by have h1 := HL5.out; omega)) (by have h1 := HL5.out; omega), Bc.set (Bc.set HK.out.2 (by have h1 := HL5.out; omega)) (by have h1 := HL5.out; omega)⟩
                  replace HS3 := Lib.hid (SV.put2 (y := (.slice a4 us.length n4)) (z := (.slice b4 vs.length m4)) HS3.out HR5.out)
                  replace HS4 := Lib.hid (SV.put2 (y := (.slice a4 us.length n4)) (z := (.slice b4 vs.length m4)) HS4.out HR5.out)
                  replace HS5 := Lib.hid (SV.put2 (y := (.slice a4 us.length n4)) (z := (.slice b4 vs.length m4)) HS5.out HR5.out)
                  replace HS6 := Lib.hid (SV.put2 (y := (.slice a4 us.length n4)) (z := (.slice b4 vs.length m4)) HS6.out HR5.out)
                  replace HX := Lib.hid (row_put2 (y := (.slice a4 us.length n4)) (z := (.slice b4 vs.length m4)) HX.out HR5.out)
                  replace HY := Lib.hid (row_put2 (y := (.slice a4 us.length n4)) (z := (.slice b4 vs.length m4)) HY.out HR5.out)
                  replace HP := Lib.hid (row_put2 (y := (.slice a4 us.length n4)) (z := (.slice b4 vs.length m4)) HP.out HR5.out)
                  replace HQ := Lib.hid (row_put2 (y := (.slice a4 us.length n4)) (z := (.slice b4 vs.length m4)) HQ.out HR5.out)
                  replace HB : Hid (Below w.heap.size w ((w11.setCell ⟨g5, 0, none⟩ (.slice a4 us.length n4)).setCell ⟨g5, 1, none⟩ (.slice b4 vs.length m4))) := below_put HB.out (by have h1 := HL5.out; omega)
                  replace HT6 := Lib.hid (Bc.set (Bc.set HT6.out (by have := H45.out; omega)) (by have := H45.out; omega) : Bc ((w11.setCell ⟨g5, 0, none⟩ (.slice a4 us.length n4)).setCell ⟨g5, 1, none⟩ (.slice b4 vs.length m4)) g4 _ _)
                  replace HK := Lib.hid hk
                  clear hk
                  refine Sch.tree_e rfl rfl (fun K hK => ?_)
                  go_wp2_with fail
                  refine hK _ _ HK.out ?_
                  clear hK K r0 r1 r2 r3
                  generalize ((w11.setCell ⟨g5, 0, none⟩ (.slice a4 us.length n4)).setCell ⟨g5, 1, none⟩ (.slice b4 vs.length m4)) = w12 at *
                  refine Sch.tree_n ?_
                  go_wp2_with fail
                  go_meet
                  case rel => exact ⟨_, _, _, _, _, _, rfl, rfl, ⟨HK.out.1, HK.out.2, HT6.out, HT7.out⟩, HS3, HS4, HS5, HS6, HX, HY, HP, HQ, HB⟩
                · have HR5 := Lib.hid (zero_box w8)
                  have HL5 : Hid (w.heap.size + 1 < w8.heap.size) := lt_of_cell HK.out.2.1
                  have H45 : Hid (g4 ≠ w8.heap.size) := Nat.ne_of_lt HR4.out.lt
                  have hb := bel_box w8 (cbox (.slice none 0 0) (.slice none 0 0))
                  replace HX := Lib.hid (HX.out.keep hb)
                  replace HY := Lib.hid (HY.out.keep hb)
                  replace HP := Lib.hid (HP.out.keep hb)
                  replace HQ := Lib.hid (HQ.out.keep hb)
                  replace HK := Lib.hid (HK.out.keep hb)
                  replace HR4 := Lib.hid (HR4.out.keep hb)
                  replace HS3 := Lib.hid (HS3.out.keep hb)
                  replace HS4 := Lib.hid (HS4.out.keep hb)
                  replace HB := bel_tr HB hb
                  clear hb
                  refine Sch.tree_e rfl rfl (fun K hK => ?_)
                  go_wp2_with fail
                  refine hK _ _ HK.out ?_
                  clear hK K
                  generalize w8.alloc (cbox (.slice none 0 0) (.slice none 0 0)) = w9 at *
                  generalize w8.heap.size = g5 at *
                  refine Sch.tree_e rfl rfl (fun K hK => ?_)
                  go_wp2_with fail
                  refine (HO2.out _ HP.out HQ.out).mono ?_
                  rintro e w10 ⟨x4, y4, rfl, ho, hb⟩
                  obtain ⟨a4, n4, b4, m4, rfl, rfl⟩ := ho.shape
                  have HS5 := Lib.hid (SV.of_od ho.1)
                  have HS6 := Lib.hid (SV.of_od ho.2)
                  clear ho
                  replace HX := Lib.hid (HX.out.keep hb)
                  replace HY := Lib.hid (HY.out.keep hb)
                  replace HP := Lib.hid (HP.out.keep hb)
                  replace HQ := Lib.hid (HQ.out.keep hb)
                  replace HK := Lib.hid (HK.out.keep hb)
                  replace HR4 := Lib.hid (HR4.out.keep hb)
                  replace HS3 := Lib.hid (HS3.out.keep hb)
                  replace HS4 := Lib.hid (HS4.out.keep hb)
                  replace HR5 := Lib.hid (HR5.out.keep hb)
                  replace HB := bel_tr HB hb
                  clear hb
                  refine hK _ _ HK.out ?_
                  clear hK K
                  obtain ⟨⟨u0, r0⟩, r1⟩ := HR4.out.wc 0 (by omega)
                  obtain ⟨⟨u1, r2⟩, r3⟩ := HR4.out.wc 1 (by omega)
                  have HT6 := Lib.hid (put_two (x := (.slice a3 xs.length n3)) (y := (.slice b3 ys.length m3)) HR4.out.wc)
                  have hk : Sb2 w.heap.size (w.heap.size + 1) (.slice a xs.length n) (.slice b ys.length m) (.slice p us.length j) (.slice q vs.length k) ((w10.setCell ⟨g4, 0, none⟩ (.slice a3 xs.length n3)).setCell ⟨g4, 1, none⟩ (.slice b3 ys.length m3)) := ⟨Bc.set (Bc.set HK.out.1 (by have h1 := HL4.out; omega)) (by have h1 := HL4.out; omega), Bc.set (Bc.set HK.out.2 (by have h1 := HL4.out; omega)) (by have h1 := HL4.out; omega)⟩
                  replace HS3 := Lib.hid (SV.put2 (y := (.slice a3 xs.length n3)) (z := (.slice b3 ys.length m3)) HS3.out HR4.out)
                  replace HS4 := Lib.hid (SV.put2 (y := (.slice a3 xs.length n3)) (z := (.slice b3 ys.length m3)) HS4.out HR4.out)
                  replace HS5 := Lib.hid (SV.put2 (y := (.slice a3 xs.length n3)) (z := (.slice b3 ys.length m3)) HS5.out HR4.out)
                  replace HS6 := Lib.hid (SV.put2 (y := (.slice a3 xs.length n3)) (z := (.slice b3 ys.length m3)) HS6.out HR4.out)
                  replace HX := Lib.hid (row_put2 (y := (.slice a3 xs.length n3)) (z := (.slice b3 ys.length m3)) HX.out HR4.out)
                  replace HY := Lib.hid (row_put2 (y := (.slice a3 xs.length n3)) (z := (.slice b3 ys.length m3)) HY.out HR4.out)
                  replace HP := Lib.hid (row_put2 (y := (.slice a3 xs.length n3)) (z := (.slice b3 ys.length m3)) HP.out HR4.out)
                  replace HQ := Lib.hid (row_put2 (y := (.slice a3 xs.length n3)) (z := (.slice b3 ys.length m3)) HQ.out HR4.out)
                  replace HB : Hid (Below w.heap.size w ((w10.setCell ⟨g4, 0, none⟩ (.slice a3 xs.length n3)).setCell ⟨g4, 1, none⟩ (.slice b3 ys.length m3))) := below_put HB.out (by have h1 := HL4.out; omega)
                  replace HR5 := Lib.hid (Rc.set (Rc.set HR5.out (by have := H45.out; omega)) (by have := H45.out; omega) : Rc ((w10.setCell ⟨g4, 0, none⟩ (.slice a3 xs.length n3)).setCell ⟨g4, 1, none⟩ (.slice b3 ys.length m3)) g5)
                  replace HK := Lib.hid hk
                  clear hk
                  refine Sch.tree_e rfl rfl (fun K hK => ?_)
                  go_wp2_with fail
                  refine hK _ _ HK.out ?_
                  clear hK K r0 r1 r2 r3
                  generalize ((w10.setCell ⟨g4, 0, none⟩ (.slice a3 xs.length n3)).setCell ⟨g4, 1, none⟩ (.slice b3 ys.length m3)) = w11 at *
                  obtain ⟨⟨u0, r0⟩, r1⟩ := HR5.out.wc 0 (by omega)
                  obtain ⟨⟨u1, r2⟩, r3⟩ := HR5.out.wc 1 (by omega)
                  have HT7 := Lib.hid (put_two (x := (.slice a4 us.length n4)) (y := (.slice b4 vs.length m4)) HR5.out.wc)
                  have hk : Sb2 w.heap.size (w.heap.size + 1) (.slice a xs.length n) (.slice b ys.length m) (.slice p us.length j) (.slice q vs.length k) ((w11.setCell ⟨g5, 0, none⟩ (.slice a4 us.length n4)).setCell ⟨g5, 1, none⟩ (.slice b4 vs.length m4)) := ⟨Bc.set (Bc.set HK.out.1 (by have h1 := HL5.out; omega)) (by have h1 := HL5.out; omega), Bc.set (Bc.set HK.out.2 (by have h1 := HL5.out; omega)) (by have h1 := HL5.out; omega)⟩
                  replace HS3 := Lib.hid (SV.put2 (y := (.slice a4 us.length n4)) (z := (.slice b4 vs.length m4)) HS3.out HR5.out)
                  replace HS4 := Lib.hid (SV.put2 (y := (.slice a4 us.length n4)) (z := (.slice b4 vs.length m4)) HS4.out HR5.out)
                  replace HS5 := Lib.hid (SV.put2 (y := (.slice a4 us.length n4)) (z := (.slice b4 vs.length m4)) HS5.out HR5.out)
                  replace HS6 := Lib.hid (SV.put2 (y := (.slice a4 us.length n4)) (z := (.slice b4 vs.length m4)) HS6.out HR5.out)
                  replace HX := Lib.hid (row_put2 (y := (.slice a4 us.length n4)) (z := (.slice b4 vs.length m4)) HX.out HR5.out)
                  replace HY := Lib.hid (row_put2 (y := (.slice a4 us.length n4)) (z := (.slice b4 vs.length m4)) HY.out HR5.out)
                  replace HP := Lib.hid (row_put2 (y := (.slice a4 us.length n4)) (z := (.slice b4 vs.length m4)) HP.out HR5.out)
                  replace HQ := Lib.hid (row_put2 (y := (.slice a4 us.length n4)) (z := (.slice b4 vs.length m4)) HQ.out HR5.out)
                  replace HB : Hid (Below w.heap.size w ((w11.setCell ⟨g5, 0, none⟩ (.slice a4 us.length n4)).setCell ⟨g5, 1, none⟩ (.slice b4 vs.length m4))) := below_put HB.out (by have h1 := HL5.out; omega)
                  replace HT6 := Lib.hid (Bc.set (Bc.set HT6.out (by have := H45.out; omega)) (by have := H45.out; omega) : Bc ((w11.setCell ⟨g5, 0, none⟩ (.slice a4 us.length n4)).setCell ⟨g5, 1, none⟩ (.slice b4 vs.length m4)) g4 _ _)
                  replace HK := Lib.hid hk
                  clear hk
                  refine Sch.tree_e rfl rfl (fun K hK => ?_)
                  go_wp2_with fail
                  refine hK _ _ HK.out ?_
                  clear hK K r0 r1 r2 r3
                  generalize ((w11.setCell ⟨g5, 0, none⟩ (.slice a4 us.length n4)).setCell ⟨g5, 1, none⟩ (.slice b4 vs.length m4)) = w12 at *
                  refine Sch.tree_n ?_
                  go_wp2_with fail
                  go_meet
                  case rel => exact ⟨_, _, _, _, _, _, rfl, rfl, ⟨HK.out.1, HK.out.2, HT6.out, HT7.out⟩, HS3, HS4, HS5, HS6, HX, HY, HP, HQ, HB⟩
              · have HR5 := Lib.hid (zero_box w7)
                have HL5 : Hid (w.heap.size + 1 < w7.heap.size) := lt_of_cell HK.out.2.1
                have H45 : Hid (g4 ≠ w7.heap.size) := Nat.ne_of_lt HR4.out.lt
                have hb := bel_box w7 (cbox (.slice none 0 0) (.slice none 0 0))
                replace HX := Lib.hid (HX.out.keep hb)
                replace HY := Lib.hid (HY.out.keep hb)
                replace HP := Lib.hid (HP.out.keep hb)
                replace HQ := Lib.hid (HQ.out.keep hb)
                replace HK := Lib.hid (HK.out.keep hb)
                replace HR4 := Lib.hid (HR4.out.keep hb)
                replace HB := bel_tr HB hb
                clear hb
                refine Sch.tree_e rfl rfl (fun K hK => ?_)
                go_wp2_with fail
                refine hK _ _ HK.out ?_
                clear hK K
                generalize w7.alloc (cbox (.slice none 0 0) (.slice none 0 0)) = w8 at *
                generalize w7.heap.size = g5 at *
                refine Sch.tree_e rfl rfl (fun K hK => ?_)
                go_wp2_with fail
                refine (HO1.out _ HX.out HY.out).mono ?_
                rintro e w9 ⟨x3, y3, rfl, ho, hb⟩
                obtain ⟨a3, n3, b3, m3, rfl, rfl⟩ := ho.shape
                have HS3 := Lib.hid (SV.of_od ho.1)
                have HS4 := Lib.hid (SV.of_od ho.2)
                clear ho
                replace HX := Lib.hid (HX.out.keep hb)
                replace HY := Lib.hid (HY.out.keep hb)
                replace HP := Lib.hid (HP.out.keep hb)
                replace HQ := Lib.hid (HQ.out.keep hb)
                replace HK := Lib.hid (HK.out.keep hb)
                replace HR4 := Lib.hid (HR4.out.keep hb)
                replace HR5 := Lib.hid (HR5.out.keep hb)
                replace HB := bel_tr HB hb
                clear hb
                refine hK _ _ HK.out ?_
                clear hK K
                refine Sch.tree_e rfl rfl (fun K hK => ?_)
                go_wp2_with fail
                refine (HO2.out _ HP.out HQ.out).mono ?_
                rintro e w10 ⟨x4, y4, rfl, ho, hb⟩
                obtain ⟨a4, n4, b4, m4, rfl, rfl⟩ := ho.shape
                have HS5 := Lib.hid (SV.of_od ho.1)
                have HS6 := Lib.hid (SV.of_od ho.2)
                clear ho
                replace HX := Lib.hid (HX.out.keep hb)
                replace HY := Lib.hid (HY.out.keep hb)
                replace HP := Lib.hid (HP.out.keep hb)
                replace HQ := Lib.hid (HQ.out.keep hb)
                replace HK := Lib.hid (HK.out.keep hb)
                replace HR4 := Lib.hid (HR4.out.keep hb)
                replace HR5 := Lib.hid (HR5.out.keep hb)
                replace HS3 := Lib.hid (HS3.out.keep hb)
                replace HS4 := Lib.hid (HS4.out.keep hb)
                replace HB := bel_tr HB hb
                clear hb
                refine hK _ _ HK.out ?_
                clear hK K
                obtain ⟨⟨u0, r0⟩, r1⟩ := HR4.out.wc 0 (by omega)
                obtain ⟨⟨u1, r2⟩, r3⟩ := HR4.out.wc 1 (by omega)
                have HT6 := Lib.hid (put_two (x := (.slice a3 xs.length n3)) (y := (.slice b3 ys.length m3)) HR4.out.wc)
                have hk : Sb2 w.heap.size (w.heap.size + 1) (.slice a xs.length n) (.slice b ys.length m) (.slice p us.length j) (.slice q vs.length k) ((w10.setCell ⟨g4, 0, none⟩ (.slice a3 xs.length n3)).setCell ⟨g4, 1, none⟩ (.slice b3 ys.length m3)) := ⟨Bc.set (Bc.set HK.out.1 (by have h1 := HL4.out; omega)) (by have h1 := HL4.out; omega), Bc.set (Bc.set HK.out.2 (by have h1 := HL4.out; omega)) (by have h1 := HL4.out; omega)⟩
                replace HS3 := Lib.hid (SV.put2 (y := (.slice a3 xs.length n3)) (z := (.slice b3 ys.length m3)) HS3.out HR4.out)
                replace HS4 := Lib.hid (SV.put2 (y := (.slice a3 xs.length n3)) (z := (.slice b3 ys.length m3)) HS4.out HR4.out)
                replace HS5 := Lib.hid (SV.put2 (y := (.slice a3 xs.length n3)) (z := (.slice b3 ys.length m3)) HS5.out HR4.out)
                replace HS6 := Lib.hid (SV.put2 (y := (.slice a3 xs.length n3)) (z := (.slice b3 ys.length m3)) HS6.out HR4.out)
                replace HX := Lib.hid (row_put2 (y := (.slice a3 xs.length n3)) (z := (.slice b3 ys.length m3)) HX.out HR4.out)
                replace HY := Lib.hid (row_put2 (y := (.slice a3 xs.length n3)) (z := (.slice b3 ys.length m3)) HY.out HR4.out)
                replace HP := Lib.hid (row_put2 (y := (.slice a3 xs.length n3)) (z := (.slice b3 ys.length m3)) HP.out HR4.out)
                replace HQ := Lib.hid (row_put2 (y := (.slice a3 xs.length n3)) (z := (.slice b3 ys.length m3)) HQ.out HR4.out)
                replace HB : Hid (Below w.heap.size w ((w10.setCell ⟨g4, 0, none⟩ (.slice a3 xs.length n3)).setCell ⟨g4, 1, none⟩ (.slice b3 ys.length m3))) := below_put HB.out (by have h1 := HL4.out; omega)
                replace HR5 := Lib.hid (Rc.set (Rc.set HR5.out (by have := H45.out; omega)) (by have := H45.out; omega) : Rc ((w10.setCell ⟨g4, 0, none⟩ (.slice a3 xs.length n3)).setCell ⟨g4, 1, none⟩ (.slice b3 ys.length m3)) g5)
                replace HK := Lib.hid hk
                clear hk
                refine Sch.tree_e rfl rfl (fun K hK => ?_)
                go_wp2_with fail
                refine hK _ _ HK.out ?_
                clear hK K r0 r1 r2 r3
                generalize ((w10.setCell ⟨g4, 0, none⟩ (.slice a3 xs.length n3)).setCell ⟨g4, 1, none⟩ (.slice b3 ys.length m3)) = w11 at *
                obtain ⟨⟨u0, r0⟩, r1⟩ := HR5.out.wc 0 (by omega)
                obtain ⟨⟨u1, r2⟩, r3⟩ := HR5.out.wc 1 (by omega)
                have HT7 := Lib.hid (put_two (x := (.slice a4 us.length n4)) (y := (.slice b4 vs.length m4)) HR5.out.wc)
                have hk : Sb2 w.heap.size (w.heap.size + 1) (.slice a xs.length n) (.slice b ys.length m) (.slice p us.length j) (.slice q vs.length k) ((w11.setCell ⟨g5, 0, none⟩ (.slice a4 us.length n4)).setCell ⟨g5, 1, none⟩ (.slice b4 vs.length m4)) := ⟨Bc.set (Bc.set HK.out.1 (by have h1 := HL5.out; omega)) (by have h1 := HL5.out; omega), Bc.set (Bc.set HK.out.2 (by have h1 := HL5.out; omega)) (by have h1 := HL5.out; omega)⟩
                replace HS3 := Lib.hid (SV.put2 (y := (.slice a4 us.length n4)) (z := (.slice b4 vs.length m4)) HS3.out HR5.out)
                replace HS4 := Lib.hid (SV.put2 (y := (.slice a4 us.length n4)) (z := (.slice b4 vs.length m4)) HS4.out HR5.out)
                replace HS5 := Lib.hid (SV.put2 (y := (.slice a4 us.length n4)) (z := (.slice b4 vs.length m4)) HS5.out HR5.out)
                replace HS6 := Lib.hid (SV.put2 (y := (.slice a4 us.length n4)) (z := (.slice b4 vs.length m4)) HS6.out HR5.out)
                replace HX := Lib.hid (row_put2 (y := (.slice a4 us.length n4)) (z := (.slice b4 vs.length m4)) HX.out HR5.out)
                replace HY := Lib.hid (row_put2 (y := (.slice a4 us.length n4)) (z := (.slice b4 vs.length m4)) HY.out HR5.out)
                replace HP := Lib.hid (row_put2 (y := (.slice a4 us.length n4)) (z := (.slice b4 vs.length m4)) HP.out HR5.out)
                replace HQ := Lib.hid (row_put2 (y := (.slice a4 us.length n4)) (z := (.slice b4 vs.length m4)) HQ.out HR5.out)
                replace HB : Hid (Below w.heap.size w ((w11.setCell ⟨g5, 0, none⟩ (.slice a4 us.length n4)).setCell ⟨g5, 1, none⟩ (.slice b4 vs.length m4))) := below_put HB.out (by have h1 := HL5.out; omega)
                replace HT6 := Lib.hid (Bc.set (Bc.set HT6.out (by have := H45.out; omega)) (by have := H45.out; omega) : Bc ((w11.setCell ⟨g5, 0, none⟩ (.slice a4 us.length n4)).setCell ⟨g5, 1, none⟩ (.slice b4 vs.length m4)) g4 _ _)
                replace HK := Lib.hid hk
                clear hk
                refine Sch.tree_e rfl rfl (fun K hK => ?_)
                go_wp2_with fail
                refine hK _ _ HK.out ?_
                clear hK K r0 r1 r2 r3
                generalize ((w11.setCell ⟨g5, 0, none⟩ (.slice a4 us.length n4)).setCell ⟨g5, 1, none⟩ (.slice b4 vs.length m4)) = w12 at *
                refine Sch.tree_n ?_
                go_wp2_with fail
                go_meet
                case rel => exact ⟨_, _, _, _, _, _, rfl, rfl, ⟨HK.out.1, HK.out.2, HT6.out, HT7.out⟩, HS3, HS4, HS5, HS6, HX, HY, HP, HQ, HB⟩
            · have HR5 := Lib.hid (zero_box w6)
              have HL5 : Hid (w.heap.size + 1 < w6.heap.size) := lt_of_cell HK.out.2.1
              have hb := bel_box w6 (cbox (.slice none 0 0) (.slice none 0 0))
              replace HX := Lib.hid (HX.out.keep hb)
              replace HY := Lib.hid (HY.out.keep hb)
              replace HP := Lib.hid (HP.out.keep hb)
              replace HQ := Lib.hid (HQ.out.keep hb)
              replace HK := Lib.hid (HK.out.keep hb)
              replace HB := bel_tr HB hb
              clear hb
              refine Sch.tree_e rfl rfl (fun K hK => ?_)
              go_wp2_with fail
              refine hK _ _ HK.out ?_
              clear hK K
              generalize w6.alloc (cbox (.slice none 0 0) (.slice none 0 0)) = w7 at *
              generalize w6.heap.size = g5 at *
              refine Sch.tree_two ?_ ?_
              · refine Sch.tree_e rfl rfl (fun K hK => ?_)
                go_wp2_with fail
                refine (HO1.out _ HX.out HY.out).mono ?_
                rintro e w8 ⟨x3, y3, rfl, ho, hb⟩
                obtain ⟨a3, n3, b3, m3, rfl, rfl⟩ := ho.shape
                have HS3 := Lib.hid (SV.of_od ho.1)
                have HS4 := Lib.hid (SV.of_od ho.2)
                clear ho
                replace HX := Lib.hid (HX.out.keep hb)
                replace HY := Lib.hid (HY.out.keep hb)
                replace HP := Lib.hid (HP.out.keep hb)
                replace HQ := Lib.hid (HQ.out.keep hb)
                replace HK := Lib.hid (HK.out.keep hb)
                replace HR5 := Lib.hid (HR5.out.keep hb)
                replace HB := bel_tr HB hb
                clear hb
                refine hK _ _ HK.out ?_
                clear hK K
                refine Sch.tree_two ?_ ?_
                · refine Sch.tree_e rfl rfl (fun K hK => ?_)
                  go_wp2_with fail
                  refine (HO2.out _ HP.out HQ.out).mono ?_
                  rintro e w9 ⟨x4, y4, rfl, ho, hb⟩
                  obtain ⟨a4, n4, b4, m4, rfl, rfl⟩ := ho.shape
                  have HS5 := Lib.hid (SV.of_od ho.1)
                  have HS6 := Lib.hid (SV.of_od ho.2)
                  clear ho
                  replace HX := Lib.hid (HX.out.keep hb)
                  replace HY := Lib.hid (HY.out.keep hb)
                  replace HP := Lib.hid (HP.out.keep hb)
                  replace HQ := Lib.hid (HQ.out.keep hb)
                  replace HK := Lib.hid (HK.out.keep hb)
                  replace HR5 := Lib.hid (HR5.out.keep hb)
                  replace HS3 := Lib.hid (HS3.out.keep hb)
                  replace HS4 := Lib.hid (HS4.out.keep hb)
                  replace HB := bel_tr HB hb
                  clear hb
                  refine hK _ _ HK.out ?_
                  clear hK K
                  have HR4 := Lib.hid (zero_box w9)
                  have HL4 : Hid (w.heap.size + 1 < w9.heap.size) := lt_of_cell HK.out.2.1
                  have H45 : Hid (g5 ≠ w9.heap.size) := Nat.ne_of_lt HR5.out.lt
                  have hb := bel_box w9 (cbox (.slice none 0 0) (.slice none 0 0))
                  replace HX := Lib.hid (HX.out.keep hb)
                  replace HY := Lib.hid (HY.out.keep hb)
                  replace HP := Lib.hid (HP.out.keep hb)
                  replace HQ := Lib.hid (HQ.out.keep hb)
                  replace HK := Lib.hid (HK.out.keep hb)
                  replace HR5 := Lib.hid (HR5.out.keep hb)
                  replace HS3 := Lib.hid (HS3.out.keep hb)
                  replace HS4 := Lib.hid (HS4.out.keep hb)
                  replace HS5 := Lib.hid (HS5.out.keep hb)
                  replace HS6 := Lib.hid (HS6.out.keep hb)
                  replace HB := bel_tr HB hb
                  clear hb
                  refine Sch.tree_e rfl rfl (fun K hK => ?_)
                  go_wp2_with fail
                  refine hK _ _ HK.out ?_
                  clear hK K
                  generalize w9.alloc (cbox (.slice none 0 0) (.slice none 0 0)) = w10 at *
                  generalize w9.heap.size = g4 at *
                  obtain ⟨⟨u0, r0⟩, r1⟩ := HR4.out.wc 0 (by omega)
                  obtain ⟨⟨u1, r2⟩, r3⟩ := HR4.out.wc 1 (by omega)
                  have HT6 := Lib.hid (put_two (x := (.slice a3 xs.length n3)) (y := (.slice b3 ys.length m3)) HR4.out.wc)
                  have hk : Sb2 w.heap.size (w.heap.size + 1) (.slice a xs.length n) (.slice b ys.length m) (.slice p us.length j) (.slice q vs.length k) ((w10.setCell ⟨g4, 0, none⟩ (.slice a3 xs.length n3)).setCell ⟨g4, 1, none⟩ (.slice b3 ys.length m3)) := ⟨Bc.set (Bc.set HK.out.1 (by have h1 := HL4.out; omega)) (by have h1 := HL4.out; omega), Bc.set (Bc.set HK.out.2 (by have h1 := HL4.out; omega)) (by have h1 := HL4.out; omega)⟩
                  replace HS3 := Lib.hid (SV.put2 (y := (.slice a3 xs.length n3)) (z := (.slice b3 ys.length m3)) HS3.out HR4.out)
                  replace HS4 := Lib.hid (SV.put2 (y := (.slice a3 xs.length n3)) (z := (.slice b3 ys.length m3)) HS4.out HR4.out)
                  replace HS5 := Lib.hid (SV.put2 (y := (.slice a3 xs.length n3)) (z := (.slice b3 ys.length m3)) HS5.out HR4.out)
                  replace HS6 := Lib.hid (SV.put2 (y := (.slice a3 xs.length n3)) (z := (.slice b3 ys.length m3)) HS6.out HR4.out)
                  replace HX := Lib.hid (row_put2 (y := (.slice a3 xs.length n3)) (z := (.slice b3 ys.length m3)) HX.out HR4.out)
                  replace HY := Lib.hid (row_put2 (y := (.slice a3 xs.length n3)) (z := (.slice b3 ys.length m3)) HY.out HR4.out)
                  replace HP := Lib.hid (row_put2 (y := (.slice a3 xs.length n3)) (z := (.slice b3 ys.length m3)) HP.out HR4.out)
                  replace HQ := Lib.hid (row_put2 (y := (.slice a3 xs.length n3)) (z := (.slice b3 ys.length m3)) HQ.out HR4.out)
                  replace HB : Hid (Below w.heap.size w ((w10.setCell ⟨g4, 0, none⟩ (.slice a3 xs.length n3)).setCell ⟨g4, 1, none⟩ (.slice b3 ys.length m3))) := below_put HB.out (by have h1 := HL4.out; omega)
                  replace HR5 := Lib.hid (Rc.set (Rc.set HR5.out (by have := H45.out; omega)) (by have := H45.out; omega) : Rc ((w10.setCell ⟨g4, 0, none⟩ (.slice a3 xs.length n3)).setCell ⟨g4, 1, none⟩ (.slice b3 ys.length m3)) g5)
                  replace HK := Lib.hid hk
                  clear hk
                  refine Sch.tree_e rfl rfl (fun K hK => ?_)
                  go_wp2_with fail
                  refine hK _ _ HK.out ?_
                  clear hK K r0 r1 r2 r3
                  generalize ((w10.setCell ⟨g4, 0, none⟩ (.slice a3 xs.length n3)).setCell ⟨g4, 1, none⟩ (.slice b3 ys.length m3)) = w11 at *
                  obtain ⟨⟨u0, r0⟩, r1⟩ := HR5.out.wc 0 (by omega)
                  obtain ⟨⟨u1, r2⟩, r3⟩ := HR5.out.wc 1 (by omega)
                  have HT7 := Lib.hid (put_two (x := (.slice a4 us.length n4)) (y := (.slice b4 vs.length m4)) HR5.out.wc)
                  have hk : Sb2 w.heap.size (w.heap.size + 1) (.slice a xs.length n) (.slice b ys.length m) (.slice p us.length j) (.slice q vs.length k) ((w11.setCell ⟨g5, 0, none⟩ (.slice a4 us.length n4)).setCell ⟨g5, 1, none⟩ (.slice b4 vs.length m4)) := ⟨Bc.set (Bc.set HK.out.1 (by have h1 := HL5.out; omega)) (by have h1 := HL5.out; omega), Bc.set (Bc.set HK.out.2 (by have h1 := HL5.out; omega)) (by have h1 := HL5.out; omega)⟩
                  replace HS3 := Lib.hid (SV.put2 (y := (.slice a4 us.length n4)) (z := (.slice b4 vs.length m4)) HS3.out HR5.out)
                  replace HS4 := Lib.hid (SV.put2 (y := (.slice a4 us.length n4)) (z := (.slice b4 vs.length m4)) HS4.out HR5.out)
                  replace HS5 := Lib.hid (SV.put2 (y := (.slice a4 us.length n4)) (z := (.slice b4 vs.length m4)) HS5.out HR5.out)
                  replace HS6 := Lib.hid (SV.put2 (y := (.slice a4 us.length n4)) (z := (.slice b4 vs.length m4)) HS6.out HR5.out)
                  replace HX := Lib.hid (row_put2 (y := (.slice a4 us.length n4)) (z := (.slice b4 vs.length m4)) HX.out HR5.out)
                  replace HY := Lib.hid (row_put2 (y := (.slice a4 us.length n4)) (z := (.slice b4 vs.length m4)) HY.out HR5.out)
                  replace HP := Lib.hid (row_put2 (y := (.slice a4 us.length n4)) (z := (.slice b4 vs.length m4)) HP.out HR5.out)
                  replace HQ := Lib.hid (row_put2 (y := (.slice a4 us.length n4)) (z := (.slice b4 vs.length m4)) HQ.out HR5.out)
                  replace HB : Hid (Below w.heap.size w ((w11.setCell ⟨g5, 0, none⟩ (.slice a4 us.length n4)).setCell ⟨g5, 1, none⟩ (.slice b4 vs.length m4))) := below_put HB.out (by have h1 := HL5.out; omega)
                  replace HT6 := Lib.hid (Bc.set (Bc.set HT6.out (by have := H45.out; omega)) (by have := H45.out; omega) : Bc ((w11.setCell ⟨g5, 0, none⟩ (.slice a4 us.length n4)).setCell ⟨g5, 1, none⟩ (.slice b4 vs.length m4)) g4 _ _)
                  replace HK := Lib.hid hk
                  clear hk
                  refine Sch.tree_e rfl rfl (fun K hK => ?_)
                  go_wp2_with fail
                  refine hK _ _ HK.out ?_
                  clear hK K r0 r1 r2 r3
                  generalize ((w11.setCell ⟨g5, 0, none⟩ (.slice a4 us.length n4)).setCell ⟨g5, 1, none⟩ (.slice b4 vs.length m4)) = w12 at *
                  refine Sch.tree_n ?_
                  go_wp2_with fail
                  go_meet
                  case rel => exact ⟨_, _, _, _, _, _, rfl, rfl, ⟨HK.out.1, HK.out.2, HT6.out, HT7.out⟩, HS3, HS4, HS5, HS6, HX, HY, HP, HQ, HB⟩
                · have HR4 := Lib.hid (zero_box w8)
                  have HL4 : Hid (w.heap.size + 1 < w8.heap.size) := lt_of_cell HK.out.2.1
                  have H45 : Hid (g5 ≠ w8.heap.size) := Nat.ne_of_lt HR5.out.lt
                  have hb := bel_box w8 (cbox (.slice none 0 0) (.slice none 0 0))
                  replace HX := Lib.hid (HX.out.keep hb)
                  replace HY := Lib.hid (HY.out.keep hb)
                  replace HP := Lib.hid (HP.out.keep hb)
                  replace HQ := Lib.hid (HQ.out.keep hb)
                  replace HK := Lib.hid (HK.out.keep hb)
                  replace HR5 := Lib.hid (HR5.out.keep hb)
                  replace HS3 := Lib.hid (HS3.out.keep hb)
                  replace HS4 := Lib.hid (HS4.out.keep hb)
                  replace HB := bel_tr HB hb
                  clear hb
                  refine Sch.tree_e rfl rfl (fun K hK => ?_)
                  go_wp2_with fail
                  refine hK _ _ HK.out ?_
                  clear hK K
                  generalize w8.alloc (cbox (.slice none 0 0) (.slice none 0 0)) = w9 at *
                  generalize w8.heap.size = g4 at *
                  refine Sch.tree_e rfl rfl (fun K hK => ?_)
                  go_wp2_with fail
                  refine (HO2.out _ HP.out HQ.out).mono ?_
                  rintro e w10 ⟨x4, y4, rfl, ho, hb⟩
                  obtain ⟨a4, n4, b4, m4, rfl, rfl⟩ := ho.shape
                  have HS5 := Lib.hid (SV.of_od ho.1)
                  have HS6 := Lib.hid (SV.of_od ho.2)
                  clear ho
                  replace HX := Lib.hid (HX.out.keep hb)
                  replace HY := Lib.hid (HY.out.keep hb)
                  replace HP := Lib.hid (HP.out.keep hb)
                  replace HQ := Lib.hid (HQ.out.keep hb)
                  replace HK := Lib.hid (HK.out.keep hb)
                  replace HR5 := Lib.hid (HR5.out.keep hb)
                  replace HS3 := Lib.hid (HS3.out.keep hb)
                  replace HS4 := Lib.hid (HS4.out.keep hb)
                  replace HR4 := Lib.hid (HR4.out.keep hb)
                  replace HB := bel_tr HB hb
                  clear hb
                  refine hK _ _ HK.out ?_
                  clear hK K
                  obtain ⟨⟨u0, r0⟩, r1⟩ := HR4.out.wc 0 (by omega)
                  obtain ⟨⟨u1, r2⟩, r3⟩ := HR4.out.wc 1 (by omega)
                  have HT6 := Lib.hid (put_two (x := (.slice a3 xs.length n3)) (y := (.slice b3 ys.length m3)) HR4.out.wc)
                  have hk : Sb2 w.heap.size (w.heap.size + 1) (.slice a xs.length n) (.slice b ys.length m) (.slice p us.length j) (.slice q vs.length k) ((w10.setCell ⟨g4, 0, none⟩ (.slice a3 xs.length n3)).setCell ⟨g4, 1, none⟩ (.slice b3 ys.length m3)) := ⟨Bc.set (Bc.set HK.out.1 (by have h1 := HL4.out; omega)) (by have h1 := HL4.out; omega), Bc.set (Bc.set HK.out.2 (by have h1 := HL4.out; omega)) (by have h1 := HL4.out; omega)⟩
                  replace HS3 := Lib.hid (SV.put2 (y := (.slice a3 xs.length n3)) (z := (.slice b3 ys.length m3)) HS3.out HR4.out)
                  replace HS4 := Lib.hid (SV.put2 (y := (.slice a3 xs.length n3)) (z := (.slice b3 ys.length m3)) HS4.out HR4.out)
                  replace HS5 := Lib.hid (SV.put2 (y := (.slice a3 xs.length n3)) (z := (.slice b3 ys.length m3)) HS5.out HR4.out)
                  replace HS6 := Lib.hid (SV.put2 (y := (.slice a3 xs.length n3)) (z := (.slice b3 ys.length m3)) HS6.out HR4.out)
                  replace HX := Lib.hid (row_put2 (y := (.slice a3 xs.length n3)) (z := (.slice b3 ys.length m3)) HX.out HR4.out)
                  replace HY := Lib.hid (row_put2 (y := (.slice a3 xs.length n3)) (z := (.slice b3 ys.length m3)) HY.out HR4.out)
                  replace HP := Lib.hid (row_put2 (y := (.slice a3 xs.length n3)) (z := (.slice b3 ys.length m3)) HP.out HR4.out)
                  replace HQ := Lib.hid (row_put2 (y := (.slice a3 xs.length n3)) (z := (.slice b3 ys.length m3)) HQ.out HR4.out)
                  replace HB : Hid (Below w.heap.size w ((w10.setCell ⟨g4, 0, none⟩ (.slice a3 xs.length n3)).setCell ⟨g4, 1, none⟩ (.slice b3 ys.length m3))) := below_put HB.out (by have h1 := HL4.out; omega)
                  replace HR5 := Lib.hid (Rc.set (Rc.set HR5.out (by have := H45.out; omega)) (by have := H45.out; omega) : Rc ((w10.setCell ⟨g4, 0, none⟩ (.slice a3 xs.length n3)).setCell ⟨g4, 1, none⟩ (.slice b3 ys.length m3)) g5)
                  replace HK := Lib.hid hk
                  clear hk
                  refine Sch.tree_e rfl rfl (fun K hK => ?_)
                  go_wp2_with fail
                  refine hK _ _ HK.out ?_
                  clear hK K r0 r1 r2 r3
                  generalize ((w10.setCell ⟨g4, 0, none⟩ (.slice a3 xs.length n3)).setCell ⟨g4, 1, none⟩ (.slice b3 ys.length m3)) = w11 at *
                  obtain ⟨⟨u0, r0⟩, r1⟩ := HR5.out.wc 0 (by omega)
                  obtain ⟨⟨u1, r2⟩, r3⟩ := HR5.out.wc 1 (by omega)
                  have HT7 := Lib.hid (put_two (x := (.slice a4 us.length n4)) (y := (.slice b4 vs.length m4)) HR5.out.wc)
                  have hk : Sb2 w.heap.size (w.heap.size + 1) (.slice a xs.length n) (.slice b ys.length m) (.slice p us.length j) (.slice q vs.length k) ((w11.setCell ⟨g5, 0, none⟩ (.slice a4 us.length n4)).setCell ⟨g5, 1, none⟩ (.slice b4 vs.length m4)) := ⟨Bc.set (Bc.set HK.out.1 (by have h1 := HL5.out; omega)) (by have h1 := HL5.out; omega), Bc.set (Bc.set HK.out.2 (by have h1 := HL5.out; omega)) (by have h1 := HL5.out; omega)⟩
                  replace HS3 := Lib.hid (SV.put2 (y := (.slice a4 us.length n4)) (z := (.slice b4 vs.length m4)) HS3.out HR5.out)
                  replace HS4 := Lib.hid (SV.put2 (y := (.slice a4 us.length n4)) (z := (.slice b4 vs.length m4)) HS4.out HR5.out)
                  replace HS5 := Lib.hid (SV.put2 (y := (.slice a4 us.length n4)) (z := (.slice b4 vs.length m4)) HS5.out HR5.out)
                  replace HS6 := Lib.hid (SV.put2 (y := (.slice a4 us.length n4)) (z := (.slice b4 vs.length m4)) HS6.out HR5.out)
                  replace HX := Lib.hid (row_put2 (y := (.slice a4 us.length n4)) (z := (.slice b4 vs.length m4)) HX.out HR5.out)
                  replace HY := Lib.hid (row_put2 (y := (.slice a4 us.length n4)) (z := (.slice b4 vs.length m4)) HY.out HR5.out)
                  replace HP := Lib.hid (row_put2 (y := (.slice a4 us.length n4)) (z := (.slice b4 vs.length m4)) HP.out HR5.out)
                  replace HQ := Lib.hid (row_put2 (y := (.slice a4 us.length n4)) (z := (.slice b4 vs.length m4)) HQ.out HR5.out)
                  replace HB : Hid (Below w.heap.size w ((w11.setCell ⟨g5, 0, none⟩ (.slice a4 us.length n4)).setCell ⟨g5, 1, none⟩ (.slice b4 vs.length m4))) := below_put HB.out (by have h1 := HL5.out; omega)
                  replace HT6 := Lib.hid (Bc.set (Bc.set HT6.out (by have := H45.out; omega)) (by have := H45.out; omega) : Bc ((w11.setCell ⟨g5, 0, none⟩ (.slice a4 us.length n4)).setCell ⟨g5, 1, none⟩ (.slice b4 vs.length m4)) g4 _ _)
                  replace HK := Lib.hid hk
                  clear hk
                  refine Sch.tree_e rfl rfl (fun K hK => ?_)
                  go_wp2_with fail
                  refine hK _ _ HK.out ?_
                  clear hK K r0 r1 r2 r3
                  generalize ((w11.setCell ⟨g5, 0, none⟩ (.slice a4 us.length n4)).setCell ⟨g5, 1, none⟩ (.slice b4 vs.length m4)) = w12 at *
                  refine Sch.tree_n ?_
                  go_wp2_with fail
                  go_meet
                  case rel => exact ⟨_, _, _, _, _, _, rfl, rfl, ⟨HK.out.1, HK.out.2, HT6.out, HT7.out⟩, HS3, HS4, HS5, HS6, HX, HY, HP, HQ, HB⟩
              · have HR4 := Lib.hid (zero_box w7)
                have HL4 : Hid (w.heap.size + 1 < w7.heap.size) := lt_of_cell HK.out.2.1
                have H45 : Hid (g5 ≠ w7.heap.size) := Nat.ne_of_lt HR5.out.lt
                have hb := bel_box w7 (cbox (.slice none 0 0) (.slice none 0 0))
                replace HX := Lib.hid (HX.out.keep hb)
                replace HY := Lib.hid (HY.out.keep hb)
                replace HP := Lib.hid (HP.out.keep hb)
                replace HQ := Lib.hid (HQ.out.keep hb)
                replace HK := Lib.hid (HK.out.keep hb)
                replace HR5 := Lib.hid (HR5.out.keep hb)
                replace HB := bel_tr HB hb
                clear hb
                refine Sch.tree_e rfl rfl (fun K hK => ?_)
                go_wp2_with fail
                refine hK _ _ HK.out ?_
                clear hK K
                generalize w7.alloc (cbox (.slice none 0 0) (.slice none 0 0)) = w8 at *
                generalize w7.heap.size = g4 at *
                refine Sch.tree_e rfl rfl (fun K hK => ?_)
                go_wp2_with fail
                refine (HO1.out _ HX.out HY.out).mono ?_
                rintro e w9 ⟨x3, y3, rfl, ho, hb⟩
                obtain ⟨a3, n3, b3, m3, rfl, rfl⟩ := ho.shape
                have HS3 := Lib.hid (SV.of_od ho.1)
                have HS4 := Lib.hid (SV.of_od ho.2)
                clear ho
                replace HX := Lib.hid (HX.out.keep hb)
                replace HY := Lib.hid (HY.out.keep hb)
                replace HP := Lib.hid (HP.out.keep hb)
                replace HQ := Lib.hid (HQ.out.keep hb)
                replace HK := Lib.hid (HK.out.keep hb)
                replace HR5 := Lib.hid (HR5.out.keep hb)
                replace HR4 := Lib.hid (HR4.out.keep hb)
                replace HB := bel_tr HB hb
                clear hb
                refine hK _ _ HK.out ?_
                clear hK K
                refine Sch.tree_e rfl rfl (fun K hK => ?_)
                go_wp2_with fail
                refine (HO2.out _ HP.out HQ.out).mono ?_
                rintro e w10 ⟨x4, y4, rfl, ho, hb⟩
                obtain ⟨a4, n4, b4, m4, rfl, rfl⟩ := ho.shape
                have HS5 := Lib.hid (SV.of_od ho.1)
                have HS6 := Lib.hid (SV.of_od ho.2)
                clear ho
                replace HX := Lib.hid (HX.out.keep hb)
                replace HY := Lib.hid (HY.out.keep hb)
                replace HP := Lib.hid (HP.out.keep hb)
                replace HQ := Lib.hid (HQ.out.keep hb)
                replace HK := Lib.hid (HK.out.keep hb)
                replace HR5 := Lib.hid (HR5.out.keep hb)
                replace HR4 := Lib.hid (HR4.out.keep hb)
                replace HS3 := Lib.hid (HS3.out.keep hb)
                replace HS4 := Lib.hid (HS4.out.keep hb)
                replace HB := bel_tr HB hb
                clear hb
                refine hK _ _ HK.out ?_
                clear hK K
                obtain ⟨⟨u0, r0⟩, r1⟩ := HR4.out.wc 0 (by omega)
                obtain ⟨⟨u1, r2⟩, r3⟩ := HR4.out.wc 1 (by omega)
                have HT6 := Lib.hid (put_two (x := (.slice a3 xs.length n3)) (y := (.slice b3 ys.length m3)) HR4.out.wc)
                have hk : Sb2 w.heap.size (w.heap.size + 1) (.slice a xs.length n) (.slice b ys.length m) (.slice p us.length j) (.slice q vs.length k) ((w10.setCell ⟨g4, 0, none⟩ (.slice a3 xs.length n3)).setCell ⟨g4, 1, none⟩ (.slice b3 ys.length m3)) := ⟨Bc.set (Bc.set HK.out.1 (by have h1 := HL4.out; omega)) (by have h1 := HL4.out; omega), Bc.set (Bc.set HK.out.2 (by have h1 := HL4.out; omega)) (by have h1 := HL4.out; omega)⟩
                replace HS3 := Lib.hid (SV.put2 (y := (.slice a3 xs.length n3)) (z := (.slice b3 ys.length m3)) HS3.out HR4.out)
                replace HS4 := Lib.hid (SV.put2 (y := (.slice a3 xs.length n3)) (z := (.slice b3 ys.length m3)) HS4.out HR4.out)
                replace HS5 := Lib.hid (SV.put2 (y := (.slice a3 xs.length n3)) (z := (.slice b3 ys.length m3)) HS5.out HR4.out)
                replace HS6 := Lib.hid (SV.put2 (y := (.slice a3 xs.length n3)) (z := (.slice b3 ys.length m3)) HS6.out HR4.out)
                replace HX := Lib.hid (row_put2 (y := (.slice a3 xs.length n3)) (z := (.slice b3 ys.length m3)) HX.out HR4.out)
                replace HY := Lib.hid (row_put2 (y := (.slice a3 xs.length n3)) (z := (.slice b3 ys.length m3)) HY.out HR4.out)
                replace HP := Lib.hid (row_put2 (y := (.slice a3 xs.length n3)) (z := (.slice b3 ys.length m3)) HP.out HR4.out)
                replace HQ := Lib.hid (row_put2 (y := (.slice a3 xs.length n3)) (z := (.slice b3 ys.length m3)) HQ.out HR4.out)
                replace HB : Hid (Below w.heap.size w ((w10.setCell ⟨g4, 0, none⟩ (.slice a3 xs.length n3)).setCell ⟨g4, 1, none⟩ (.slice b3 ys.length m3))) := below_put HB.out (by have h1 := HL4.out; omega)
                replace HR5 := Lib.hid (Rc.set (Rc.set HR5.out (by have := H45.out; omega)) (by have := H45.out; omega) : Rc ((w10.setCell ⟨g4, 0, none⟩ (.slice a3 xs.length n3)).setCell ⟨g4, 1, none⟩ (.slice b3 ys.length m3)) g5)
                replace HK := Lib.hid hk
                clear hk
                refine Sch.tree_e rfl rfl (fun K hK => ?_)
                go_wp2_with fail
                refine hK _ _ HK.out ?_
                clear hK K r0 r1 r2 r3
                generalize ((w10.setCell ⟨g4, 0, none⟩ (.slice a3 xs.length n3)).setCell ⟨g4, 1, none⟩ (.slice b3 ys.length m3)) = w11 at *
                obtain ⟨⟨u0, r0⟩, r1⟩ := HR5.out.wc 0 (by omega)
                obtain ⟨⟨u1, r2⟩, r3⟩ := HR5.out.wc 1 (by omega)
                have HT7 := Lib.hid (put_two (x := (.slice a4 us.length n4)) (y := (.slice b4 vs.length m4)) HR5.out.wc)
                have hk : Sb2 w.heap.size (w.heap.size + 1) (.slice a xs.length n) (.slice b ys.length m) (.slice p us.length j) (.slice q vs.length k) ((w11.setCell ⟨g5, 0, none⟩ (.slice a4 us.length n4)).setCell ⟨g5, 1, none⟩ (.slice b4 vs.length m4)) := ⟨Bc.set (Bc.set HK.out.1 (by have h1 := HL5.out; omega)) (by have h1 := HL5.out; omega), Bc.set (Bc.set HK.out.2 (by have h1 := HL5.out; omega)) (by have h1 := HL5.out; omega)⟩
                replace HS3 := Lib.hid (SV.put2 (y := (.slice a4 us.length n4)) (z := (.slice b4 vs.length m4)) HS3.out HR5.out)
                replace HS4 := Lib.hid (SV.put2 (y := (.slice a4 us.length n4)) (z := (.slice b4 vs.length m4)) HS4.out HR5.out)
                replace HS5 := Lib.hid (SV.put2 (y := (.slice a4 us.length n4)) (z := (.slice b4 vs.length m4)) HS5.out HR5.out)
                replace HS6 := Lib.hid (SV.put2 (y := (.slice a4 us.length n4)) (z := (.slice b4 vs.length m4)) HS6.out HR5.out)
                replace HX := Lib.hid (row_put2 (y := (.slice a4 us.length n4)) (z := (.slice b4 vs.length m4)) HX.out HR5.out)
                replace HY := Lib.hid (row_put2 (y := (.slice a4 us.length n4)) (z := (.slice b4 vs.length m4)) HY.out HR5.out)
                replace HP := Lib.hid (row_put2 (y := (.slice a4 us.length n4)) (z := (.slice b4 vs.length m4)) HP.out HR5.out)
                replace HQ := Lib.hid (row_put2 (y := (.slice a4 us.length n4)) (z := (.slice b4 vs.length m4)) HQ.out HR5.out)
                replace HB : Hid (Below w.heap.size w ((w11.setCell ⟨g5, 0, none⟩ (.slice a4 us.length n4)).setCell ⟨g5, 1, none⟩ (.slice b4 vs.length m4))) := below_put HB.out (by have h1 := HL5.out; omega)
                replace HT6 := Lib.hid (Bc.set (Bc.set HT6.out (by have := H45.out; omega)) (by have := H45.out; omega) : Bc ((w11.setCell ⟨g5, 0, none⟩ (.slice a4 us.length n4)).setCell ⟨g5, 1, none⟩ (.slice b4 vs.length m4)) g4 _ _)
                replace HK := Lib.hid hk
                clear hk
                refine Sch.tree_e rfl rfl (fun K hK => ?_)
                go_wp2_with fail
                refine hK _ _ HK.out ?_
                clear hK K r0 r1 r2 r3
                generalize ((w11.setCell ⟨g5, 0, none⟩ (.slice a4 us.length n4)).setCell ⟨g5, 1, none⟩ (.slice b4 vs.length m4)) = w12 at *
                refine Sch.tree_n ?_
                go_wp2_with fail
                go_meet
                case rel => exact ⟨_, _, _, _, _, _, rfl, rfl, ⟨HK.out.1, HK.out.2, HT6.out, HT7.out⟩, HS3, HS4, HS5, HS6, HX, HY, HP, HQ, HB⟩
          case rest =>
            obtain ⟨g1, g2, x3, y3, x4, y4, rfl, rfl, HK, HS3, HS4, HS5, HS6, HX, HY, HP, HQ, HB⟩ := hcut
            generalize wc = w105 at *
            obtain ⟨a3, n3, rfl, -⟩ := SV.sh HS3.out
            obtain ⟨b3, m3, rfl, -⟩ := SV.sh HS4.out
            obtain ⟨a4, n4, rfl, -⟩ := SV.sh HS5.out
            obtain ⟨b4, m4, rfl, -⟩ := SV.sh HS6.out
            go_wp2_with fail
            refine Sch.wp_region_tree (S4 w.heap.size (w.heap.size + 1) g1 g2 (.slice a xs.length n) (.slice b ys.length m) (.slice p us.length j) (.slice q vs.length k) (.slice a3 xs.length n3) (.slice b3 ys.length m3) (.slice a4 us.length n4) (.slice b4 vs.length m4)) (.take 0 (.take 1 (.take 2 (.take 3 (.one 4 (.one 5 (.take 6 (.take 7 (.take 8 (.take 9 (.take 10 (.one 11 (.one 12 (.take 13 (.take 14 (.take 15 (.take 16 (.one 17 (.take 18 (.take 19 (.take 20 (.take 21 (.one 22 (.take 23 (.take 24 (.one 25 (.take 26 (.take 27 .done)))))))))))))))))))))))))))) (by kernel_rfl) (by kernel_rfl) (HK.out.keep ((Below.refl _ _).drew)) ?_
            have hb : Below w105.heap.size w105 w105.drew := (Below.refl _ _).drew
            replace HX := Lib.hid (HX.out.keep hb)
            replace HY := Lib.hid (HY.out.keep hb)
            replace HP := Lib.hid (HP.out.keep hb)
            replace HQ := Lib.hid (HQ.out.keep hb)
            replace HK := Lib.hid (HK.out.keep hb)
            replace HS3 := Lib.hid (HS3.out.keep hb)
            replace HS4 := Lib.hid (HS4.out.keep hb)
            replace HS5 := Lib.hid (HS5.out.keep hb)
            replace HS6 := Lib.hid (HS6.out.keep hb)
            replace HB := bel_tr HB hb
            clear hb
            generalize w105.drew = w106 at *
            refine tree_load _ _ _ _ _ rfl rfl rfl rfl (by first | exact S4.a | exact S4.b | exact S4.c | exact S4.dd) rfl ?_
            simp only [Act.put, List.setIfInBounds_toArray, List.set_cons_zero, List.set_cons_succ]
            refine tree_load _ _ _ _ _ rfl rfl rfl rfl (by first | exact S4.a | exact S4.b | exact S4.c | exact S4.dd) rfl ?_
            simp only [Act.put, List.setIfInBounds_toArray, List.set_cons_zero, List.set_cons_succ]
            refine tree_load _ _ _ _ _ rfl rfl rfl rfl (by first | exact S4.a | exact S4.b | exact S4.c | exact S4.dd) rfl ?_
            simp only [Act.put, List.setIfInBounds_toArray, List.set_cons_zero, List.set_cons_succ]
            refine tree_load _ _ _ _ _ rfl rfl rfl rfl (by first | exact S4.a | exact S4.b | exact S4.c | exact S4.dd) rfl ?_
            simp only [Act.put, List.setIfInBounds_toArray, List.set_cons_zero, List.set_cons_succ]
            refine Sch.tree_e rfl rfl (fun K hK => ?_)
            go_wp2_with fail
            refine (HR1.out _ HX.out HY.out HP.out HQ.out).mono ?_
            rintro e w107 ⟨x5, y5, rfl, hs1, hs2, hb⟩
            have HS7 := Lib.hid hs1
            have HS8 := Lib.hid hs2
            clear hs1 hs2
            replace HX := Lib.hid (HX.out.keep hb)
            replace HY := Lib.hid (HY.out.keep hb)
            replace HP := Lib.hid (HP.out.keep hb)
            replace HQ := Lib.hid (HQ.out.keep hb)
            replace HK := Lib.hid (HK.out.keep hb)
            replace HS3 := Lib.hid (HS3.out.keep hb)
            replace HS4 := Lib.hid (HS4.out.keep hb)
            replace HS5 := Lib.hid (HS5.out.keep hb)
            replace HS6 := Lib.hid (HS6.out.keep hb)
            replace HB := bel_tr HB hb
            clear hb
            refine hK _ _ HK.out ?_
            clear hK K
            refine Sch.tree_e rfl rfl (fun K hK => ?_)
            go_wp2_with fail
            refine (HUt.out a3 b3 a4 b4 n3 m3 n4 m4 x5 y5 C 0 _ (SV.r HS3.out).1 (SV.r HS4.out).1 (SV.r HS5.out).1 (SV.r HS6.out).1 (SV.r HS3.out).2.1 (SV.r HS4.out).2.1 (SV.r HS5.out).2.1 (SV.r HS6.out).2.1 HS7.out HS8.out HUl.out HU.out).mono ?_
            rintro e w108 ⟨rfl, hb⟩
            replace HX := Lib.hid (HX.out.keep hb)
            replace HY := Lib.hid (HY.out.keep hb)
            replace HP := Lib.hid (HP.out.keep hb)
            replace HQ := Lib.hid (HQ.out.keep hb)
            replace HK := Lib.hid (HK.out.keep hb)
            replace HS3 := Lib.hid (HS3.out.keep hb)
            replace HS4 := Lib.hid (HS4.out.keep hb)
            replace HS5 := Lib.hid (HS5.out.keep hb)
            replace HS6 := Lib.hid (HS6.out.keep hb)
            replace HS7 := Lib.hid (HS7.out.keep hb)
            replace HS8 := Lib.hid (HS8.out.keep hb)
            replace HB := bel_tr HB hb
            clear hb
            refine hK _ _ HK.out ?_
            clear hK K
            refine Sch.tree_q rfl rfl (fun K hK => ?_)
            go_big_quiet_op
            first | refine hK _ ?_ | refine ⟨_, fun _ _ => rfl, hK _ ?_⟩
            clear hK K
            refine tree_load _ _ _ _ _ rfl rfl rfl rfl (by first | exact S4.a | exact S4.b | exact S4.c | exact S4.dd) rfl ?_
            simp only [Act.put, List.setIfInBounds_toArray, List.set_cons_zero, List.set_cons_succ]
            refine tree_load _ _ _ _ _ rfl rfl rfl rfl (by first | exact S4.a | exact S4.b | exact S4.c | exact S4.dd) rfl ?_
            simp only [Act.put, List.setIfInBounds_toArray, List.set_cons_zero, List.set_cons_succ]
            refine tree_load _ _ _ _ _ rfl rfl rfl rfl (by first | exact S4.a | exact S4.b | exact S4.c | exact S4.dd) rfl ?_
            simp only [Act.put, List.setIfInBounds_toArray, List.set_cons_zero, List.set_cons_succ]
            refine tree_load _ _ _ _ _ rfl rfl rfl rfl (by first | exact S4.a | exact S4.b | exact S4.c | exact S4.dd) rfl ?_
            simp only [Act.put, List.setIfInBounds_toArray, List.set_cons_zero, List.set_cons_succ]
            refine Sch.tree_e rfl rfl (fun K hK => ?_)
            go_wp2_with fail
            refine (HR2.out _ HX.out HY.out HP.out HQ.out).mono ?_
            rintro e w109 ⟨rfl, hb⟩
            replace HX := Lib.hid (HX.out.keep hb)
            replace HY := Lib.hid (HY.out.keep hb)
            replace HP := Lib.hid (HP.out.keep hb)
            replace HQ := Lib.hid (HQ.out.keep hb)
            replace HK := Lib.hid (HK.out.keep hb)
            replace HS3 := Lib.hid (HS3.out.keep hb)
            replace HS4 := Lib.hid (HS4.out.keep hb)
            replace HS5 := Lib.hid (HS5.out.keep hb)
            replace HS6 := Lib.hid (HS6.out.keep hb)
            replace HS7 := Lib.hid (HS7.out.keep hb)
            replace HS8 := Lib.hid (HS8.out.keep hb)
            replace HB := bel_tr HB hb
            clear hb
            refine hK _ _ HK.out ?_
            clear hK K
            refine Sch.tree_e rfl rfl (fun K hK => ?_)
            go_wp2_with fail
            refine (HWt.out a3 b3 a4 b4 n3 m3 n4 m4 t 0 _ (SV.r HS3.out).1 (SV.r HS4.out).1 (SV.r HS5.out).1 (SV.r HS6.out).1 (SV.r HS5.out).2.1 HW.out).mono ?_
            rintro e w110 ⟨rfl, hb⟩
            replace HX := Lib.hid (HX.out.keep hb)
            replace HY := Lib.hid (HY.out.keep hb)
            replace HP := Lib.hid (HP.out.keep hb)
            replace HQ := Lib.hid (HQ.out.keep hb)
            replace HK := Lib.hid (HK.out.keep hb)
            replace HS3 := Lib.hid (HS3.out.keep hb)
            replace HS4 := Lib.hid (HS4.out.keep hb)
            replace HS5 := Lib.hid (HS5.out.keep hb)
            replace HS6 := Lib.hid (HS6.out.keep hb)
            replace HS7 := Lib.hid (HS7.out.keep hb)
            replace HS8 := Lib.hid (HS8.out.keep hb)
            replace HB := bel_tr HB hb
            clear hb
            refine hK _ _ HK.out ?_
            clear hK K
            refine Sch.tree_q rfl rfl (fun K hK => ?_)
            go_big_quiet_op
            first | refine hK _ ?_ | refine ⟨_, fun _ _ => rfl, hK _ ?_⟩
            clear hK K
            refine Sch.tree_q rfl rfl (fun K hK => ?_)
            go_big_quiet_op
            first | refine hK _ ?_ | refine ⟨_, fun _ _ => rfl, hK _ ?_⟩
            clear hK K
            refine tree_load _ _ _ _ _ rfl rfl rfl rfl (by first | exact S4.a | exact S4.b | exact S4.c | exact S4.dd) rfl ?_
            simp only [Act.put, List.setIfInBounds_toArray, List.set_cons_zero, List.set_cons_succ]
            refine tree_load _ _ _ _ _ rfl rfl rfl rfl (by first | exact S4.a | exact S4.b | exact S4.c | exact S4.dd) rfl ?_
            simp only [Act.put, List.setIfInBounds_toArray, List.set_cons_zero, List.set_cons_succ]
            refine Sch.tree_e rfl rfl (fun K hK => ?_)
            go_wp2_with fail
            refine (HE1.out a3 b3 a b n3 m3 n m _ (SV.r HS3.out).1 (SV.r HS4.out).1 HX.out HY.out).mono ?_
            rintro e w111 ⟨rfl, hb⟩
            replace HX := Lib.hid (HX.out.keep hb)
            replace HY := Lib.hid (HY.out.keep hb)
            replace HP := Lib.hid (HP.out.keep hb)
            replace HQ := Lib.hid (HQ.out.keep hb)
            replace HK := Lib.hid (HK.out.keep hb)
            replace HS3 := Lib.hid (HS3.out.keep hb)
            replace HS4 := Lib.hid (HS4.out.keep hb)
            replace HS5 := Lib.hid (HS5.out.keep hb)
            replace HS6 := Lib.hid (HS6.out.keep hb)
            replace HS7 := Lib.hid (HS7.out.keep hb)
            replace HS8 := Lib.hid (HS8.out.keep hb)
            replace HB := bel_tr HB hb
            clear hb
            refine hK _ _ HK.out ?_
            clear hK K
            refine Sch.tree_q rfl rfl (fun K hK => ?_)
            go_big_quiet_op
            first | refine hK _ ?_ | refine ⟨_, fun _ _ => rfl, hK _ ?_⟩
            clear hK K
            refine Sch.tree_q rfl rfl (fun K hK => ?_)
            go_big_quiet_op
            first | refine hK _ ?_ | refine ⟨_, fun _ _ => rfl, hK _ ?_⟩
            clear hK K
            refine tree_load _ _ _ _ _ rfl rfl rfl rfl (by first | exact S4.a | exact S4.b | exact S4.c | exact S4.dd) rfl ?_
            simp only [Act.put, List.setIfInBounds_toArray, List.set_cons_zero, List.set_cons_succ]
            refine tree_load _ _ _ _ _ rfl rfl rfl rfl (by first | exact S4.a | exact S4.b | exact S4.c | exact S4.dd) rfl ?_
            simp only [Act.put, List.setIfInBounds_toArray, List.set_cons_zero, List.set_cons_succ]
            refine Sch.tree_e rfl rfl (fun K hK => ?_)
            go_wp2_with fail
            refine (HE2.out a4 b4 p q n4 m4 j k _ (SV.r HS5.out).1 (SV.r HS6.out).1 HP.out HQ.out).mono ?_
            rintro e w112 ⟨rfl, hb⟩
            replace HX := Lib.hid (HX.out.keep hb)
            replace HY := Lib.hid (HY.out.keep hb)
            replace HP := Lib.hid (HP.out.keep hb)
            replace HQ := Lib.hid (HQ.out.keep hb)
            replace HK := Lib.hid (HK.out.keep hb)
            replace HS3 := Lib.hid (HS3.out.keep hb)
            replace HS4 := Lib.hid (HS4.out.keep hb)
            replace HS5 := Lib.hid (HS5.out.keep hb)
            replace HS6 := Lib.hid (HS6.out.keep hb)
            replace HS7 := Lib.hid (HS7.out.keep hb)
            replace HS8 := Lib.hid (HS8.out.keep hb)
            replace HB := bel_tr HB hb
            clear hb
            refine hK _ _ HK.out ?_
            clear hK K
            refine Sch.tree_q rfl rfl (fun K hK => ?_)
            go_big_quiet_op
            first | refine hK _ ?_ | refine ⟨_, fun _ _ => rfl, hK _ ?_⟩
            clear hK K
            refine Sch.tree_q rfl rfl (fun K hK => ?_)
            go_big_quiet_op
            first | refine hK _ ?_ | refine ⟨_, fun _ _ => rfl, hK _ ?_⟩
            clear hK K
            refine Sch.tree_e rfl rfl (fun K hK => ?_)
            go_wp2_with fail
            refine (HKn.out _).mono ?_
            rintro e w113 ⟨rfl, hb⟩
            replace HX := Lib.hid (HX.out.keep hb)
            replace HY := Lib.hid (HY.out.keep hb)
            replace HP := Lib.hid (HP.out.keep hb)
            replace HQ := Lib.hid (HQ.out.keep hb)
            replace HK := Lib.hid (HK.out.keep hb)
            replace HS3 := Lib.hid (HS3.out.keep hb)
            replace HS4 := Lib.hid (HS4.out.keep hb)
            replace HS5 := Lib.hid (HS5.out.keep hb)
            replace HS6 := Lib.hid (HS6.out.keep hb)
            replace HS7 := Lib.hid (HS7.out.keep hb)
            replace HS8 := Lib.hid (HS8.out.keep hb)
            replace HB := bel_tr HB hb
            clear hb
            refine hK _ _ HK.out ?_
            clear hK K
            refine Sch.tree_q rfl rfl (fun K hK => ?_)
            go_big_quiet_op
            first | refine hK _ ?_ | refine ⟨_, fun _ _ => rfl, hK _ ?_⟩
            clear hK K
            refine Sch.tree_q rfl rfl (fun K hK => ?_)
            go_big_quiet_op
            first | refine hK _ ?_ | refine ⟨_, fun _ _ => rfl, hK _ ?_⟩
            clear hK K
            refine Sch.tree_n ?_
            go_wp2_with fail
            go_ret
            exact ⟨rfl, HB.out⟩
    · rw [show decide (us.length ≤ 40 ∧ vs.length ≤ 40) = false by simpa using h2] at HLj
      clear h1 h2
      go_enter Try.func6, Try.ntmps6
      go_wp2_with fail
      generalize (w.alloc (cbox (.slice a xs.length n) (.slice b ys.length m))).alloc (cbox (.slice p us.length j) (.slice q vs.length k)) = w1 at *
      refine (HLi.out _).mono ?_
      rintro e w2 ⟨rfl, hb⟩
      replace HX := Lib.hid (HX.out.keep hb)
      replace HY := Lib.hid (HY.out.keep hb)
      replace HP := Lib.hid (HP.out.keep hb)
      replace HQ := Lib.hid (HQ.out.keep hb)
      replace HK := Lib.hid (HK.out.keep hb)
      replace HB := bel_tr HB hb
      clear hb
      clear k0 k1
      have k0 := HK.out.1.1
      have k1 := HK.out.1.2
      have k2 := HK.out.2.1
      have k3 := HK.out.2.2
      go_wp2_with fail
      refine (HLj.out _).mono ?_
      rintro e w3 ⟨rfl, hb⟩
      replace HX := Lib.hid (HX.out.keep hb)
      replace HY := Lib.hid (HY.out.keep hb)
      replace HP := Lib.hid (HP.out.keep hb)
      replace HQ := Lib.hid (HQ.out.keep hb)
      replace HK := Lib.hid (HK.out.keep hb)
      replace HB := bel_tr HB hb
      clear hb
      clear k0 k1 k2 k3
      have k0 := HK.out.1.1
      have k1 := HK.out.1.2
      have k2 := HK.out.2.1
      have k3 := HK.out.2.2
      go_wp2_with fail
      refine (HKn.out _).mono ?_
      rintro e w4 ⟨rfl, hb⟩
      replace HX := Lib.hid (HX.out.keep hb)
      replace HY := Lib.hid (HY.out.keep hb)
      replace HP := Lib.hid (HP.out.keep hb)
      replace HQ := Lib.hid (HQ.out.keep hb)
      replace HK := Lib.hid (HK.out.keep hb)
      replace HB := bel_tr HB hb
      clear hb
      go_wp2_with fail
      go_ret
      exact ⟨rfl, HB.out⟩
  · rw [show decide (xs.length ≤ 40 ∧ ys.length ≤ 40) = false by simpa using h1] at HLi
    clear h1
    go_enter Try.func6, Try.ntmps6
    go_wp2_with fail
    generalize (w.alloc (cbox (.slice a xs.length n) (.slice b ys.length m))).alloc (cbox (.slice p us.length j) (.slice q vs.length k)) = w1 at *
    refine (HLi.out _).mono ?_
    rintro e w2 ⟨rfl, hb⟩
    replace HX := Lib.hid (HX.out.keep hb)
    replace HY := Lib.hid (HY.out.keep hb)
    replace HP := Lib.hid (HP.out.keep hb)
    replace HQ := Lib.hid (HQ.out.keep hb)
    replace HK := Lib.hid (HK.out.keep hb)
    replace HB := bel_tr HB hb
    clear hb
    clear k0 k1
    have k0 := HK.out.1.1
    have k1 := HK.out.1.2
    have k2 := HK.out.2.1
    have k3 := HK.out.2.2
    go_wp2_with fail
    refine (HKn.out _).mono ?_
    rintro e w3 ⟨rfl, hb⟩
    replace HX := Lib.hid (HX.out.keep hb)
    replace HY := Lib.hid (HY.out.keep hb)
    replace HP := Lib.hid (HP.out.keep hb)
    replace HQ := Lib.hid (HQ.out.keep hb)
    replace HK := Lib.hid (HK.out.keep hb)
    replace HB := bel_tr HB hb
    clear hb
    go_wp2_with fail
    go_ret
    exact ⟨rfl, HB.out⟩
end Go.Proofs.Ytefnoajkdhgonaa.F
