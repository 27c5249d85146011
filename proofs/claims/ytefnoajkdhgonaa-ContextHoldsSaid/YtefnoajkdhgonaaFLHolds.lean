/-
  The sixth law: what holds of three contexts and a dot.
-/
import Derived.Test.YtefnoajkdhgonaaFKnown
namespace Go.Proofs.Ytefnoajkdhgonaa.F
set_option linter.unusedVariables false
open Go.RowKit V Go.Sort D
open E (SV SV.nil SV.keep SV.of_od)

set_option maxRecDepth 100000 in
set_option maxHeartbeats 16000000 in
theorem holds_law (xs ys us vs zs ts : List Dt) (a b p q c g : Option Addr) (n m j k o r : Nat) (d : Dt) (w : World) (hx : RowD w a xs) (hy : RowD w b ys) (hp : RowD w p us) (hq : RowD w q vs) (hz : RowD w c zs) (ht : RowD w g ts) (hna : a = none → n = 0) (hnb : b = none → m = 0) (hnp : p = none → j = 0) (hnq : q = none → k = 0) (hnc : c = none → o = 0) (hng : g = none → r = 0) :
    Calls Try.prog 8 #[cv (.slice a xs.length n) (.slice b ys.length m), cv (.slice p us.length j) (.slice q vs.length k), cv (.slice c zs.length o) (.slice g ts.length r), dv d] w fun e w' => e = .returned (.bool true) ∧ Below w.heap.size w w' := by
  have HKn := Lib.hid (fun w => known_any w)
  obtain ⟨d1, d2⟩ := d
  obtain ⟨t0, t1, t2, hb0⟩ := three_boxes w (.slice a xs.length n) (.slice b ys.length m) (.slice p us.length j) (.slice q vs.length k) (.slice c zs.length o) (.slice g ts.length r)
  have hsz : (((w.alloc (cbox (.slice a xs.length n) (.slice b ys.length m))).alloc (cbox (.slice p us.length j) (.slice q vs.length k))).alloc (cbox (.slice c zs.length o) (.slice g ts.length r))).heap.size = w.heap.size + 1 + 1 + 1 := by simp
  have hb := bel_tr (Lib.hid hb0) (bel_box (((w.alloc (cbox (.slice a xs.length n) (.slice b ys.length m))).alloc (cbox (.slice p us.length j) (.slice q vs.length k))).alloc (cbox (.slice c zs.length o) (.slice g ts.length r))) (Obj.cells #[.int .i64 d1, .int .i64 d2] 38))
  have hbx := bel_box (((w.alloc (cbox (.slice a xs.length n) (.slice b ys.length m))).alloc (cbox (.slice p us.length j) (.slice q vs.length k))).alloc (cbox (.slice c zs.length o) (.slice g ts.length r))) (Obj.cells #[.int .i64 d1, .int .i64 d2] 38)
  have HB1 : Hid (Bc ((((w.alloc (cbox (.slice a xs.length n) (.slice b ys.length m))).alloc (cbox (.slice p us.length j) (.slice q vs.length k))).alloc (cbox (.slice c zs.length o) (.slice g ts.length r))).alloc (Obj.cells #[.int .i64 d1, .int .i64 d2] 38)) w.heap.size (.slice a xs.length n) (.slice b ys.length m)) := Lib.hid (t0.keep hbx)
  have HB2 : Hid (Bc ((((w.alloc (cbox (.slice a xs.length n) (.slice b ys.length m))).alloc (cbox (.slice p us.length j) (.slice q vs.length k))).alloc (cbox (.slice c zs.length o) (.slice g ts.length r))).alloc (Obj.cells #[.int .i64 d1, .int .i64 d2] 38)) (w.heap.size + 1) (.slice p us.length j) (.slice q vs.length k)) := Lib.hid (t1.keep hbx)
  have HB3 : Hid (Bc ((((w.alloc (cbox (.slice a xs.length n) (.slice b ys.length m))).alloc (cbox (.slice p us.length j) (.slice q vs.length k))).alloc (cbox (.slice c zs.length o) (.slice g ts.length r))).alloc (Obj.cells #[.int .i64 d1, .int .i64 d2] 38)) (w.heap.size + 1 + 1) (.slice c zs.length o) (.slice g ts.length r)) := Lib.hid (t2.keep hbx)
  have HBd : Hid (Sq (w.heap.size + 1 + 1 + 1) 0 (d1, d2) ((((w.alloc (cbox (.slice a xs.length n) (.slice b ys.length m))).alloc (cbox (.slice p us.length j) (.slice q vs.length k))).alloc (cbox (.slice c zs.length o) (.slice g ts.length r))).alloc (Obj.cells #[.int .i64 d1, .int .i64 d2] 38))) := by
    refine ⟨?_, ?_⟩ <;> rw [← hsz] <;> go_simp
  have HB := Lib.hid hb.out
  have HX := Lib.hid (hx.keep HB.out)
  have HY := Lib.hid (hy.keep HB.out)
  have HP := Lib.hid (hp.keep HB.out)
  have HQ := Lib.hid (hq.keep HB.out)
  have HZ := Lib.hid (hz.keep HB.out)
  have HT := Lib.hid (ht.keep HB.out)
  have HN1 := Lib.hid hna
  have HN2 := Lib.hid hnb
  have HN3 := Lib.hid hnp
  have HN4 := Lib.hid hnq
  have HN5 := Lib.hid hnc
  have HN6 := Lib.hid hng
  have HLi := Lib.hid (fun w => light_any xs ys a b n m w)
  have HLj := Lib.hid (fun w => light_any us vs p q j k w)
  have HLk := Lib.hid (fun w => light_any zs ts c g o r w)
  clear hx hy hp hq hz ht hb hb0 hbx hsz t0 t1 t2 hna hnb hnp hnq hnc hng
  have k0 := HB1.out.1
  have k1 := HB1.out.2
  by_cases h1 : xs.length ≤ 40 ∧ ys.length ≤ 40
  · rw [show decide (xs.length ≤ 40 ∧ ys.length ≤ 40) = true by simpa using h1] at HLi
    by_cases h2 : us.length ≤ 40 ∧ vs.length ≤ 40
    · rw [show decide (us.length ≤ 40 ∧ vs.length ≤ 40) = true by simpa using h2] at HLj
      by_cases h3 : zs.length ≤ 40 ∧ ts.length ≤ 40
      · rw [show decide (zs.length ≤ 40 ∧ ts.length ≤ 40) = true by simpa using h3] at HLk
        have HV1 := Lib.hid (fun w h1 h2 => valid_any xs ys a b n m w h1 h2 (by omega) (by omega))
        have HV2 := Lib.hid (fun w h1 h2 => valid_any us vs p q j k w h1 h2 (by omega) (by omega))
        have HV3 := Lib.hid (fun w h1 h2 => valid_any zs ts c g o r w h1 h2 (by omega) (by omega))
        rcases hv1 : validC (xs, ys) with _ | _
        · rw [hv1] at HV1
          clear hv1 h1 h2 h3
          go_enter Try.func8, Try.ntmps8
          go_wp2_with fail
          generalize (((w.alloc (cbox (.slice a xs.length n) (.slice b ys.length m))).alloc (cbox (.slice p us.length j) (.slice q vs.length k))).alloc (cbox (.slice c zs.length o) (.slice g ts.length r))).alloc (Obj.cells #[.int .i64 d1, .int .i64 d2] 38) = w1 at *
          refine (HLi.out _).mono ?_
          rintro e w2 ⟨rfl, hb⟩
          replace HX := Lib.hid (HX.out.keep hb)
          replace HY := Lib.hid (HY.out.keep hb)
          replace HP := Lib.hid (HP.out.keep hb)
          replace HQ := Lib.hid (HQ.out.keep hb)
          replace HZ := Lib.hid (HZ.out.keep hb)
          replace HT := Lib.hid (HT.out.keep hb)
          replace HB1 := Lib.hid (HB1.out.keep hb)
          replace HB2 := Lib.hid (HB2.out.keep hb)
          replace HB3 := Lib.hid (HB3.out.keep hb)
          replace HBd := Lib.hid (HBd.out.keep hb)
          replace HB := bel_tr HB hb
          clear hb
          clear k0 k1
          have k0 := HB1.out.1
          have k1 := HB1.out.2
          have k2 := HB2.out.1
          have k3 := HB2.out.2
          have k4 := HB3.out.1
          have k5 := HB3.out.2
          go_wp2_with fail
          refine (HLj.out _).mono ?_
          rintro e w3 ⟨rfl, hb⟩
          replace HX := Lib.hid (HX.out.keep hb)
          replace HY := Lib.hid (HY.out.keep hb)
          replace HP := Lib.hid (HP.out.keep hb)
          replace HQ := Lib.hid (HQ.out.keep hb)
          replace HZ := Lib.hid (HZ.out.keep hb)
          replace HT := Lib.hid (HT.out.keep hb)
          replace HB1 := Lib.hid (HB1.out.keep hb)
          replace HB2 := Lib.hid (HB2.out.keep hb)
          replace HB3 := Lib.hid (HB3.out.keep hb)
          replace HBd := Lib.hid (HBd.out.keep hb)
          replace HB := bel_tr HB hb
          clear hb
          clear k0 k1 k2 k3 k4 k5
          have k0 := HB1.out.1
          have k1 := HB1.out.2
          have k2 := HB2.out.1
          have k3 := HB2.out.2
          have k4 := HB3.out.1
          have k5 := HB3.out.2
          go_wp2_with fail
          refine (HLk.out _).mono ?_
          rintro e w4 ⟨rfl, hb⟩
          replace HX := Lib.hid (HX.out.keep hb)
          replace HY := Lib.hid (HY.out.keep hb)
          replace HP := Lib.hid (HP.out.keep hb)
          replace HQ := Lib.hid (HQ.out.keep hb)
          replace HZ := Lib.hid (HZ.out.keep hb)
          replace HT := Lib.hid (HT.out.keep hb)
          replace HB1 := Lib.hid (HB1.out.keep hb)
          replace HB2 := Lib.hid (HB2.out.keep hb)
          replace HB3 := Lib.hid (HB3.out.keep hb)
          replace HBd := Lib.hid (HBd.out.keep hb)
          replace HB := bel_tr HB hb
          clear hb
          clear k0 k1 k2 k3 k4 k5
          have k0 := HB1.out.1
          have k1 := HB1.out.2
          have k2 := HB2.out.1
          have k3 := HB2.out.2
          have k4 := HB3.out.1
          have k5 := HB3.out.2
          go_wp2_with fail
          refine (HV1.out _ HX.out HY.out).mono ?_
          rintro e w5 ⟨rfl, hb⟩
          replace HX := Lib.hid (HX.out.keep hb)
          replace HY := Lib.hid (HY.out.keep hb)
          replace HP := Lib.hid (HP.out.keep hb)
          replace HQ := Lib.hid (HQ.out.keep hb)
          replace HZ := Lib.hid (HZ.out.keep hb)
          replace HT := Lib.hid (HT.out.keep hb)
          replace HB1 := Lib.hid (HB1.out.keep hb)
          replace HB2 := Lib.hid (HB2.out.keep hb)
          replace HB3 := Lib.hid (HB3.out.keep hb)
          replace HBd := Lib.hid (HBd.out.keep hb)
          replace HB := bel_tr HB hb
          clear hb
          clear k0 k1 k2 k3 k4 k5
          have k0 := HB1.out.1
          have k1 := HB1.out.2
          have k2 := HB2.out.1
          have k3 := HB2.out.2
          have k4 := HB3.out.1
          have k5 := HB3.out.2
          go_wp2_with fail
          refine (HKn.out _).mono ?_
          rintro e w6 ⟨rfl, hb⟩
          replace HX := Lib.hid (HX.out.keep hb)
          replace HY := Lib.hid (HY.out.keep hb)
          replace HP := Lib.hid (HP.out.keep hb)
          replace HQ := Lib.hid (HQ.out.keep hb)
          replace HZ := Lib.hid (HZ.out.keep hb)
          replace HT := Lib.hid (HT.out.keep hb)
          replace HB1 := Lib.hid (HB1.out.keep hb)
          replace HB2 := Lib.hid (HB2.out.keep hb)
          replace HB3 := Lib.hid (HB3.out.keep hb)
          replace HBd := Lib.hid (HBd.out.keep hb)
          replace HB := bel_tr HB hb
          clear hb
          go_wp2_with fail
          go_ret
          exact ⟨rfl, HB.out⟩
        · rw [hv1] at HV1
          rcases hv2 : validC (us, vs) with _ | _
          · rw [hv2] at HV2
            clear hv1 hv2 h1 h2 h3
            go_enter Try.func8, Try.ntmps8
            go_wp2_with fail
            generalize (((w.alloc (cbox (.slice a xs.length n) (.slice b ys.length m))).alloc (cbox (.slice p us.length j) (.slice q vs.length k))).alloc (cbox (.slice c zs.length o) (.slice g ts.length r))).alloc (Obj.cells #[.int .i64 d1, .int .i64 d2] 38) = w1 at *
            refine (HLi.out _).mono ?_
            rintro e w2 ⟨rfl, hb⟩
            replace HX := Lib.hid (HX.out.keep hb)
            replace HY := Lib.hid (HY.out.keep hb)
            replace HP := Lib.hid (HP.out.keep hb)
            replace HQ := Lib.hid (HQ.out.keep hb)
            replace HZ := Lib.hid (HZ.out.keep hb)
            replace HT := Lib.hid (HT.out.keep hb)
            replace HB1 := Lib.hid (HB1.out.keep hb)
            replace HB2 := Lib.hid (HB2.out.keep hb)
            replace HB3 := Lib.hid (HB3.out.keep hb)
            replace HBd := Lib.hid (HBd.out.keep hb)
            replace HB := bel_tr HB hb
            clear hb
            clear k0 k1
            have k0 := HB1.out.1
            have k1 := HB1.out.2
            have k2 := HB2.out.1
            have k3 := HB2.out.2
            have k4 := HB3.out.1
            have k5 := HB3.out.2
            go_wp2_with fail
            refine (HLj.out _).mono ?_
            rintro e w3 ⟨rfl, hb⟩
            replace HX := Lib.hid (HX.out.keep hb)
            replace HY := Lib.hid (HY.out.keep hb)
            replace HP := Lib.hid (HP.out.keep hb)
            replace HQ := Lib.hid (HQ.out.keep hb)
            replace HZ := Lib.hid (HZ.out.keep hb)
            replace HT := Lib.hid (HT.out.keep hb)
            replace HB1 := Lib.hid (HB1.out.keep hb)
            replace HB2 := Lib.hid (HB2.out.keep hb)
            replace HB3 := Lib.hid (HB3.out.keep hb)
            replace HBd := Lib.hid (HBd.out.keep hb)
            replace HB := bel_tr HB hb
            clear hb
            clear k0 k1 k2 k3 k4 k5
            have k0 := HB1.out.1
            have k1 := HB1.out.2
            have k2 := HB2.out.1
            have k3 := HB2.out.2
            have k4 := HB3.out.1
            have k5 := HB3.out.2
            go_wp2_with fail
            refine (HLk.out _).mono ?_
            rintro e w4 ⟨rfl, hb⟩
            replace HX := Lib.hid (HX.out.keep hb)
            replace HY := Lib.hid (HY.out.keep hb)
            replace HP := Lib.hid (HP.out.keep hb)
            replace HQ := Lib.hid (HQ.out.keep hb)
            replace HZ := Lib.hid (HZ.out.keep hb)
            replace HT := Lib.hid (HT.out.keep hb)
            replace HB1 := Lib.hid (HB1.out.keep hb)
            replace HB2 := Lib.hid (HB2.out.keep hb)
            replace HB3 := Lib.hid (HB3.out.keep hb)
            replace HBd := Lib.hid (HBd.out.keep hb)
            replace HB := bel_tr HB hb
            clear hb
            clear k0 k1 k2 k3 k4 k5
            have k0 := HB1.out.1
            have k1 := HB1.out.2
            have k2 := HB2.out.1
            have k3 := HB2.out.2
            have k4 := HB3.out.1
            have k5 := HB3.out.2
            go_wp2_with fail
            refine (HV1.out _ HX.out HY.out).mono ?_
            rintro e w5 ⟨rfl, hb⟩
            replace HX := Lib.hid (HX.out.keep hb)
            replace HY := Lib.hid (HY.out.keep hb)
            replace HP := Lib.hid (HP.out.keep hb)
            replace HQ := Lib.hid (HQ.out.keep hb)
            replace HZ := Lib.hid (HZ.out.keep hb)
            replace HT := Lib.hid (HT.out.keep hb)
            replace HB1 := Lib.hid (HB1.out.keep hb)
            replace HB2 := Lib.hid (HB2.out.keep hb)
            replace HB3 := Lib.hid (HB3.out.keep hb)
            replace HBd := Lib.hid (HBd.out.keep hb)
            replace HB := bel_tr HB hb
            clear hb
            clear k0 k1 k2 k3 k4 k5
            have k0 := HB1.out.1
            have k1 := HB1.out.2
            have k2 := HB2.out.1
            have k3 := HB2.out.2
            have k4 := HB3.out.1
            have k5 := HB3.out.2
            go_wp2_with fail
            refine (HV2.out _ HP.out HQ.out).mono ?_
            rintro e w6 ⟨rfl, hb⟩
            replace HX := Lib.hid (HX.out.keep hb)
            replace HY := Lib.hid (HY.out.keep hb)
            replace HP := Lib.hid (HP.out.keep hb)
            replace HQ := Lib.hid (HQ.out.keep hb)
            replace HZ := Lib.hid (HZ.out.keep hb)
            replace HT := Lib.hid (HT.out.keep hb)
            replace HB1 := Lib.hid (HB1.out.keep hb)
            replace HB2 := Lib.hid (HB2.out.keep hb)
            replace HB3 := Lib.hid (HB3.out.keep hb)
            replace HBd := Lib.hid (HBd.out.keep hb)
            replace HB := bel_tr HB hb
            clear hb
            clear k0 k1 k2 k3 k4 k5
            have k0 := HB1.out.1
            have k1 := HB1.out.2
            have k2 := HB2.out.1
            have k3 := HB2.out.2
            have k4 := HB3.out.1
            have k5 := HB3.out.2
            go_wp2_with fail
            refine (HKn.out _).mono ?_
            rintro e w7 ⟨rfl, hb⟩
            replace HX := Lib.hid (HX.out.keep hb)
            replace HY := Lib.hid (HY.out.keep hb)
            replace HP := Lib.hid (HP.out.keep hb)
            replace HQ := Lib.hid (HQ.out.keep hb)
            replace HZ := Lib.hid (HZ.out.keep hb)
            replace HT := Lib.hid (HT.out.keep hb)
            replace HB1 := Lib.hid (HB1.out.keep hb)
            replace HB2 := Lib.hid (HB2.out.keep hb)
            replace HB3 := Lib.hid (HB3.out.keep hb)
            replace HBd := Lib.hid (HBd.out.keep hb)
            replace HB := bel_tr HB hb
            clear hb
            go_wp2_with fail
            go_ret
            exact ⟨rfl, HB.out⟩
          · rw [hv2] at HV2
            rcases hv3 : validC (zs, ts) with _ | _
            · rw [hv3] at HV3
              clear hv1 hv2 hv3 h1 h2 h3
              go_enter Try.func8, Try.ntmps8
              go_wp2_with fail
              generalize (((w.alloc (cbox (.slice a xs.length n) (.slice b ys.length m))).alloc (cbox (.slice p us.length j) (.slice q vs.length k))).alloc (cbox (.slice c zs.length o) (.slice g ts.length r))).alloc (Obj.cells #[.int .i64 d1, .int .i64 d2] 38) = w1 at *
              refine (HLi.out _).mono ?_
              rintro e w2 ⟨rfl, hb⟩
              replace HX := Lib.hid (HX.out.keep hb)
              replace HY := Lib.hid (HY.out.keep hb)
              replace HP := Lib.hid (HP.out.keep hb)
              replace HQ := Lib.hid (HQ.out.keep hb)
              replace HZ := Lib.hid (HZ.out.keep hb)
              replace HT := Lib.hid (HT.out.keep hb)
              replace HB1 := Lib.hid (HB1.out.keep hb)
              replace HB2 := Lib.hid (HB2.out.keep hb)
              replace HB3 := Lib.hid (HB3.out.keep hb)
              replace HBd := Lib.hid (HBd.out.keep hb)
              replace HB := bel_tr HB hb
              clear hb
              clear k0 k1
              have k0 := HB1.out.1
              have k1 := HB1.out.2
              have k2 := HB2.out.1
              have k3 := HB2.out.2
              have k4 := HB3.out.1
              have k5 := HB3.out.2
              go_wp2_with fail
              refine (HLj.out _).mono ?_
              rintro e w3 ⟨rfl, hb⟩
              replace HX := Lib.hid (HX.out.keep hb)
              replace HY := Lib.hid (HY.out.keep hb)
              replace HP := Lib.hid (HP.out.keep hb)
              replace HQ := Lib.hid (HQ.out.keep hb)
              replace HZ := Lib.hid (HZ.out.keep hb)
              replace HT := Lib.hid (HT.out.keep hb)
              replace HB1 := Lib.hid (HB1.out.keep hb)
              replace HB2 := Lib.hid (HB2.out.keep hb)
              replace HB3 := Lib.hid (HB3.out.keep hb)
              replace HBd := Lib.hid (HBd.out.keep hb)
              replace HB := bel_tr HB hb
              clear hb
              clear k0 k1 k2 k3 k4 k5
              have k0 := HB1.out.1
              have k1 := HB1.out.2
              have k2 := HB2.out.1
              have k3 := HB2.out.2
              have k4 := HB3.out.1
              have k5 := HB3.out.2
              go_wp2_with fail
              refine (HLk.out _).mono ?_
              rintro e w4 ⟨rfl, hb⟩
              replace HX := Lib.hid (HX.out.keep hb)
              replace HY := Lib.hid (HY.out.keep hb)
              replace HP := Lib.hid (HP.out.keep hb)
              replace HQ := Lib.hid (HQ.out.keep hb)
              replace HZ := Lib.hid (HZ.out.keep hb)
              replace HT := Lib.hid (HT.out.keep hb)
              replace HB1 := Lib.hid (HB1.out.keep hb)
              replace HB2 := Lib.hid (HB2.out.keep hb)
              replace HB3 := Lib.hid (HB3.out.keep hb)
              replace HBd := Lib.hid (HBd.out.keep hb)
              replace HB := bel_tr HB hb
              clear hb
              clear k0 k1 k2 k3 k4 k5
              have k0 := HB1.out.1
              have k1 := HB1.out.2
              have k2 := HB2.out.1
              have k3 := HB2.out.2
              have k4 := HB3.out.1
              have k5 := HB3.out.2
              go_wp2_with fail
              refine (HV1.out _ HX.out HY.out).mono ?_
              rintro e w5 ⟨rfl, hb⟩
              replace HX := Lib.hid (HX.out.keep hb)
              replace HY := Lib.hid (HY.out.keep hb)
              replace HP := Lib.hid (HP.out.keep hb)
              replace HQ := Lib.hid (HQ.out.keep hb)
              replace HZ := Lib.hid (HZ.out.keep hb)
              replace HT := Lib.hid (HT.out.keep hb)
              replace HB1 := Lib.hid (HB1.out.keep hb)
              replace HB2 := Lib.hid (HB2.out.keep hb)
              replace HB3 := Lib.hid (HB3.out.keep hb)
              replace HBd := Lib.hid (HBd.out.keep hb)
              replace HB := bel_tr HB hb
              clear hb
              clear k0 k1 k2 k3 k4 k5
              have k0 := HB1.out.1
              have k1 := HB1.out.2
              have k2 := HB2.out.1
              have k3 := HB2.out.2
              have k4 := HB3.out.1
              have k5 := HB3.out.2
              go_wp2_with fail
              refine (HV2.out _ HP.out HQ.out).mono ?_
              rintro e w6 ⟨rfl, hb⟩
              replace HX := Lib.hid (HX.out.keep hb)
              replace HY := Lib.hid (HY.out.keep hb)
              replace HP := Lib.hid (HP.out.keep hb)
              replace HQ := Lib.hid (HQ.out.keep hb)
              replace HZ := Lib.hid (HZ.out.keep hb)
              replace HT := Lib.hid (HT.out.keep hb)
              replace HB1 := Lib.hid (HB1.out.keep hb)
              replace HB2 := Lib.hid (HB2.out.keep hb)
              replace HB3 := Lib.hid (HB3.out.keep hb)
              replace HBd := Lib.hid (HBd.out.keep hb)
              replace HB := bel_tr HB hb
              clear hb
              clear k0 k1 k2 k3 k4 k5
              have k0 := HB1.out.1
              have k1 := HB1.out.2
              have k2 := HB2.out.1
              have k3 := HB2.out.2
              have k4 := HB3.out.1
              have k5 := HB3.out.2
              go_wp2_with fail
              refine (HV3.out _ HZ.out HT.out).mono ?_
              rintro e w7 ⟨rfl, hb⟩
              replace HX := Lib.hid (HX.out.keep hb)
              replace HY := Lib.hid (HY.out.keep hb)
              replace HP := Lib.hid (HP.out.keep hb)
              replace HQ := Lib.hid (HQ.out.keep hb)
              replace HZ := Lib.hid (HZ.out.keep hb)
              replace HT := Lib.hid (HT.out.keep hb)
              replace HB1 := Lib.hid (HB1.out.keep hb)
              replace HB2 := Lib.hid (HB2.out.keep hb)
              replace HB3 := Lib.hid (HB3.out.keep hb)
              replace HBd := Lib.hid (HBd.out.keep hb)
              replace HB := bel_tr HB hb
              clear hb
              clear k0 k1 k2 k3 k4 k5
              have k0 := HB1.out.1
              have k1 := HB1.out.2
              have k2 := HB2.out.1
              have k3 := HB2.out.2
              have k4 := HB3.out.1
              have k5 := HB3.out.2
              go_wp2_with fail
              refine (HKn.out _).mono ?_
              rintro e w8 ⟨rfl, hb⟩
              replace HX := Lib.hid (HX.out.keep hb)
              replace HY := Lib.hid (HY.out.keep hb)
              replace HP := Lib.hid (HP.out.keep hb)
              replace HQ := Lib.hid (HQ.out.keep hb)
              replace HZ := Lib.hid (HZ.out.keep hb)
              replace HT := Lib.hid (HT.out.keep hb)
              replace HB1 := Lib.hid (HB1.out.keep hb)
              replace HB2 := Lib.hid (HB2.out.keep hb)
              replace HB3 := Lib.hid (HB3.out.keep hb)
              replace HBd := Lib.hid (HBd.out.keep hb)
              replace HB := bel_tr HB hb
              clear hb
              go_wp2_with fail
              go_ret
              exact ⟨rfl, HB.out⟩
            · rw [hv3] at HV3
              have i1 := (valid_vc _).1 hv1
              have i2 := (valid_vc _).1 hv2
              have i3 := (valid_vc _).1 hv3
              have n1 := comp_len i1
              have n2 := comp_len i2
              have nU := union_len6 i1 i2
              have nV := union_len6 i2 i3
              have jU := union_vc i1 i2
              have jV := union_vc i2 i3
              have nA := union_len6 jU i3
              simp only at nU nV nA
              have HC1 : Hid (∀ w, RowD w a xs → RowD w b ys → Calls Try.prog 20 #[cv (.slice a xs.length n) (.slice b ys.length m)] w fun e w' => ∃ x y, e = .returned (.tuple #[cv x y, .int .i64 0]) ∧ Ov w' w.heap.size x y (compC (xs, ys)) ∧ Below w.heap.size w w') := fun w h1 h2 => by
                have h := compact_any xs ys a b n m w h1 h2 HN1.out (by omega) (by omega)
                rw [show compB (xs, ys) = (compC (xs, ys), 0) by unfold compB; rw [if_pos hv1]] at h
                exact h
              have HC2 : Hid (∀ w, RowD w p us → RowD w q vs → Calls Try.prog 20 #[cv (.slice p us.length j) (.slice q vs.length k)] w fun e w' => ∃ x y, e = .returned (.tuple #[cv x y, .int .i64 0]) ∧ Ov w' w.heap.size x y (compC (us, vs)) ∧ Below w.heap.size w w') := fun w h1 h2 => by
                have h := compact_any us vs p q j k w h1 h2 HN3.out (by omega) (by omega)
                rw [show compB (us, vs) = (compC (us, vs), 0) by unfold compB; rw [if_pos hv2]] at h
                exact h
              have HW1 : Hid (∀ w, RowD w a xs → RowD w b ys → RowD w p us → RowD w q vs → Calls Try.prog 38 #[cv (.slice a xs.length n) (.slice b ys.length m), cv (.slice p us.length j) (.slice q vs.length k)] w fun e w' => e = .returned (.tuple #[.bool (withinC (xs, ys) (us, vs)), .int .i64 0]) ∧ Below w.heap.size w w') := fun w h1 h2 h3 h4 => by
                have h := within_any6 xs ys us vs a b p q n m j k w h1 h2 h3 h4 HN3.out (by omega) (by omega) (by omega) (by omega)
                rw [show withB (xs, ys) (us, vs) = (withinC (xs, ys) (us, vs), 0) by unfold withB; rw [if_pos ⟨hv1, hv2⟩]] at h
                exact h
              have HW2 : Hid (∀ w, RowD w a xs → RowD w b ys → RowD w p us → RowD w q vs → Calls Try.prog 38 #[cv (.slice p us.length j) (.slice q vs.length k), cv (.slice a xs.length n) (.slice b ys.length m)] w fun e w' => e = .returned (.tuple #[.bool (withinC (us, vs) (xs, ys)), .int .i64 0]) ∧ Below w.heap.size w w') := fun w h1 h2 h3 h4 => by
                have h := within_any6 us vs xs ys p q a b j k n m w h3 h4 h1 h2 HN1.out (by omega) (by omega) (by omega) (by omega)
                rw [show withB (us, vs) (xs, ys) = (withinC (us, vs) (xs, ys), 0) by unfold withB; rw [if_pos ⟨hv2, hv1⟩]] at h
                exact h
              have HU1 : Hid (∀ w, RowD w a xs → RowD w b ys → RowD w p us → RowD w q vs → Calls Try.prog 39 #[cv (.slice a xs.length n) (.slice b ys.length m), cv (.slice p us.length j) (.slice q vs.length k)] w fun e w' => ∃ x y, e = .returned (.tuple #[cv x y, .int .i64 0]) ∧ Ov w' w.heap.size x y (unionC (xs, ys) (us, vs)) ∧ Below w.heap.size w w') := fun w h1 h2 h3 h4 => by
                have h := union_any6 xs ys us vs a b p q n m j k w h1 h2 h3 h4 HN1.out HN2.out HN3.out HN4.out (by omega) (by omega) (by omega) (by omega)
                rw [show unionB (xs, ys) (us, vs) = (unionC (xs, ys) (us, vs), 0) by unfold unionB; rw [if_pos ⟨hv1, hv2⟩]] at h
                exact h
              have HU2 : Hid (∀ w, RowD w p us → RowD w q vs → RowD w c zs → RowD w g ts → Calls Try.prog 39 #[cv (.slice p us.length j) (.slice q vs.length k), cv (.slice c zs.length o) (.slice g ts.length r)] w fun e w' => ∃ x y, e = .returned (.tuple #[cv x y, .int .i64 0]) ∧ Ov w' w.heap.size x y (unionC (us, vs) (zs, ts)) ∧ Below w.heap.size w w') := fun w h1 h2 h3 h4 => by
                have h := union_any6 us vs zs ts p q c g j k o r w h1 h2 h3 h4 HN3.out HN4.out HN5.out HN6.out (by omega) (by omega) (by omega) (by omega)
                rw [show unionB (us, vs) (zs, ts) = (unionC (us, vs) (zs, ts), 0) by unfold unionB; rw [if_pos ⟨hv2, hv3⟩]] at h
                exact h
              have htt : decide (compC (xs, ys) = compC (us, vs)) = (withinC (xs, ys) (us, vs) && withinC (us, vs) (xs, ys)) := by
                rw [Bool.eq_iff_iff, Bool.and_eq_true, decide_eq_true_iff]
                exact within_both i1 i2
              have hhu : hasC (unionC (xs, ys) (us, vs)) (d1, d2) = (hasC (xs, ys) (d1, d2) || hasC (us, vs) (d1, d2)) := union_has i1 i2 _
              have hsz1 : sizeB (compC (xs, ys)) = sizeC (xs, ys) := by
                unfold sizeB
                rw [if_pos ((valid_vc _).2 (comp_vc i1))]
                exact comp_size i1
              have hsz2 : sizeB (xs, ys) = sizeC (xs, ys) := by unfold sizeB; rw [if_pos hv1]
              have hok := (comp_ok i1).1
              have hcc : compB (compC (xs, ys)) = (compC (xs, ys), 0) := by
                unfold compB
                rw [if_pos ((valid_vc _).2 (comp_vc i1)), comp_self hok]
              have huc : unionB (us, vs) (xs, ys) = (unionC (xs, ys) (us, vs), 0) := by
                unfold unionB
                rw [if_pos ⟨hv2, hv1⟩, union_comm i2 i1]
              have hua : unionB (xs, ys) (unionC (us, vs) (zs, ts)) = (unionC (unionC (xs, ys) (us, vs)) (zs, ts), 0) := by
                unfold unionB
                rw [if_pos ⟨hv1, (valid_vc _).2 jV⟩, union_assoc i1 i2 i3]
              have hub : unionB (unionC (xs, ys) (us, vs)) (zs, ts) = (unionC (unionC (xs, ys) (us, vs)) (zs, ts), 0) := by
                unfold unionB
                rw [if_pos ⟨(valid_vc _).2 jU, hv3⟩]
              have hwu : withB (xs, ys) (unionC (xs, ys) (us, vs)) = (true, 0) := by
                unfold withB
                rw [if_pos ⟨hv1, (valid_vc _).2 jU⟩, (within_iffC i1 jU).2 fun x hx => by rw [union_has i1 i2, hx]; rfl]
              generalize compC (xs, ys) = S1 at *
              generalize compC (us, vs) = S2 at *
              generalize unionC (xs, ys) (us, vs) = U at *
              generalize unionC (us, vs) (zs, ts) = V at *
              generalize unionC U (zs, ts) = A at *
              generalize withinC (xs, ys) (us, vs) = t1 at *
              generalize withinC (us, vs) (xs, ys) = t2 at *
              obtain ⟨s1, s2⟩ := S1
              obtain ⟨s3, s4⟩ := S2
              obtain ⟨u1, u2⟩ := U
              obtain ⟨v1, v2⟩ := V
              obtain ⟨a1, a2⟩ := A
              simp only at n1 n2 nU nV nA
              have HE := Lib.hid (fun a b p q n m j k w h1 h2 h3 h4 => equal_ref s1 s2 s3 s4 a b p q n m j k w h1 h2 h3 h4 (by omega) (by omega) (by omega) (by omega))
              rw [htt] at HE
              have HI := Lib.hid (fun a b n m w h1 h2 => isCompact_any s1 s2 a b n m w h1 h2 (by omega) (by omega))
              rw [hok] at HI
              have HCt := Lib.hid (fun a b n m u v w hx hy hna hu hv => compacts_true s1 s2 a b n m u v (s1, s2) 0 w hx hy hna (by omega) (by omega) hu hv ⟨by simp only; omega, by simp only; omega⟩ hcc)
              have HS1 := Lib.hid (fun a b n m w h1 h2 => size_any s1 s2 a b n m w h1 h2 (by omega) (by omega))
              rw [hsz1] at HS1
              have HS2 := Lib.hid (fun w h1 h2 => size_any xs ys a b n m w h1 h2 (by omega) (by omega))
              rw [hsz2] at HS2
              have HUt := Lib.hid (fun u v w hx hy hp hq hu hv => united_true us vs p q j k xs ys a b n m u v (u1, u2) 0 w hx hy hp hq HN3.out HN4.out HN1.out HN2.out (by omega) (by omega) (by omega) (by omega) hu hv ⟨by simp only; omega, by simp only; omega⟩ huc)
              have HH1 := Lib.hid (fun a b n m w h1 h2 => has_any u1 u2 (d1, d2) a b n m w h1 h2 (by omega) (by omega))
              rw [hhu] at HH1
              have HH2 := Lib.hid (fun w h1 h2 => has_any xs ys (d1, d2) a b n m w h1 h2 (by omega) (by omega))
              have HH3 := Lib.hid (fun w h1 h2 => has_any us vs (d1, d2) p q j k w h1 h2 (by omega) (by omega))
              have HWt := Lib.hid (fun p q j k w hx hy hp hq e3 => within_true xs ys a b n m u1 u2 p q j k true 0 w hx hy hp hq e3 (by omega) (by omega) (by omega) (by omega) hwu)
              have HU3 : Hid (∀ a b n m w, RowD w a u1 → RowD w b u2 → RowD w c zs → RowD w g ts → (a = none → n = 0) → (b = none → m = 0) → Calls Try.prog 39 #[cv (.slice a u1.length n) (.slice b u2.length m), cv (.slice c zs.length o) (.slice g ts.length r)] w fun e w' => ∃ x y, e = .returned (.tuple #[cv x y, .int .i64 0]) ∧ Ov w' w.heap.size x y (a1, a2) ∧ Below w.heap.size w w') := fun a b n m w h1 h2 h3 h4 e1 e2 => by
                have h := union_any6 u1 u2 zs ts a b c g n m o r w h1 h2 h3 h4 e1 e2 HN5.out HN6.out (by omega) (by omega) (by omega) (by omega)
                rw [hub] at h
                exact h
              have HUa := Lib.hid (fun p q j k u v w hx hy hp hq e3 e4 hu hv => united_true xs ys a b n m v1 v2 p q j k u v (a1, a2) 0 w hx hy hp hq HN1.out HN2.out e3 e4 (by omega) (by omega) (by omega) (by omega) hu hv ⟨by simp only; omega, by simp only; omega⟩ hua)
              clear i1 i2 i3 n1 n2 nU nV nA jU jV htt hhu hsz1 hsz2 hok hcc huc hua hub hwu hv1 hv2 hv3 h1 h2 h3
              generalize sizeC (xs, ys) = sz at *
              generalize hasC (xs, ys) (d1, d2) = ha at *
              generalize hasC (us, vs) (d1, d2) = hbb at *
              generalize htt : (t1 && t2) = tt at *
              generalize hhu : (ha || hbb) = hu at *
              have Htt := Lib.hid htt
              have Hhu := Lib.hid hhu
              clear htt hhu
              go_enter Try.func8, Try.ntmps8
              go_wp2_with fail
              generalize (((w.alloc (cbox (.slice a xs.length n) (.slice b ys.length m))).alloc (cbox (.slice p us.length j) (.slice q vs.length k))).alloc (cbox (.slice c zs.length o) (.slice g ts.length r))).alloc (Obj.cells #[.int .i64 d1, .int .i64 d2] 38) = w1 at *
              refine (HLi.out _).mono ?_
              rintro e w2 ⟨rfl, hb⟩
              replace HX := Lib.hid (HX.out.keep hb)
              replace HY := Lib.hid (HY.out.keep hb)
              replace HP := Lib.hid (HP.out.keep hb)
              replace HQ := Lib.hid (HQ.out.keep hb)
              replace HZ := Lib.hid (HZ.out.keep hb)
              replace HT := Lib.hid (HT.out.keep hb)
              replace HB1 := Lib.hid (HB1.out.keep hb)
              replace HB2 := Lib.hid (HB2.out.keep hb)
              replace HB3 := Lib.hid (HB3.out.keep hb)
              replace HBd := Lib.hid (HBd.out.keep hb)
              replace HB := bel_tr HB hb
              clear hb
              clear k0 k1
              have k0 := HB1.out.1
              have k1 := HB1.out.2
              have k2 := HB2.out.1
              have k3 := HB2.out.2
              have k4 := HB3.out.1
              have k5 := HB3.out.2
              go_wp2_with fail
              refine (HLj.out _).mono ?_
              rintro e w3 ⟨rfl, hb⟩
              replace HX := Lib.hid (HX.out.keep hb)
              replace HY := Lib.hid (HY.out.keep hb)
              replace HP := Lib.hid (HP.out.keep hb)
              replace HQ := Lib.hid (HQ.out.keep hb)
              replace HZ := Lib.hid (HZ.out.keep hb)
              replace HT := Lib.hid (HT.out.keep hb)
              replace HB1 := Lib.hid (HB1.out.keep hb)
              replace HB2 := Lib.hid (HB2.out.keep hb)
              replace HB3 := Lib.hid (HB3.out.keep hb)
              replace HBd := Lib.hid (HBd.out.keep hb)
              replace HB := bel_tr HB hb
              clear hb
              clear k0 k1 k2 k3 k4 k5
              have k0 := HB1.out.1
              have k1 := HB1.out.2
              have k2 := HB2.out.1
              have k3 := HB2.out.2
              have k4 := HB3.out.1
              have k5 := HB3.out.2
              go_wp2_with fail
              refine (HLk.out _).mono ?_
              rintro e w4 ⟨rfl, hb⟩
              replace HX := Lib.hid (HX.out.keep hb)
              replace HY := Lib.hid (HY.out.keep hb)
              replace HP := Lib.hid (HP.out.keep hb)
              replace HQ := Lib.hid (HQ.out.keep hb)
              replace HZ := Lib.hid (HZ.out.keep hb)
              replace HT := Lib.hid (HT.out.keep hb)
              replace HB1 := Lib.hid (HB1.out.keep hb)
              replace HB2 := Lib.hid (HB2.out.keep hb)
              replace HB3 := Lib.hid (HB3.out.keep hb)
              replace HBd := Lib.hid (HBd.out.keep hb)
              replace HB := bel_tr HB hb
              clear hb
              clear k0 k1 k2 k3 k4 k5
              have k0 := HB1.out.1
              have k1 := HB1.out.2
              have k2 := HB2.out.1
              have k3 := HB2.out.2
              have k4 := HB3.out.1
              have k5 := HB3.out.2
              go_wp2_with fail
              refine (HV1.out _ HX.out HY.out).mono ?_
              rintro e w5 ⟨rfl, hb⟩
              replace HX := Lib.hid (HX.out.keep hb)
              replace HY := Lib.hid (HY.out.keep hb)
              replace HP := Lib.hid (HP.out.keep hb)
              replace HQ := Lib.hid (HQ.out.keep hb)
              replace HZ := Lib.hid (HZ.out.keep hb)
              replace HT := Lib.hid (HT.out.keep hb)
              replace HB1 := Lib.hid (HB1.out.keep hb)
              replace HB2 := Lib.hid (HB2.out.keep hb)
              replace HB3 := Lib.hid (HB3.out.keep hb)
              replace HBd := Lib.hid (HBd.out.keep hb)
              replace HB := bel_tr HB hb
              clear hb
              clear k0 k1 k2 k3 k4 k5
              have k0 := HB1.out.1
              have k1 := HB1.out.2
              have k2 := HB2.out.1
              have k3 := HB2.out.2
              have k4 := HB3.out.1
              have k5 := HB3.out.2
              go_wp2_with fail
              refine (HV2.out _ HP.out HQ.out).mono ?_
              rintro e w6 ⟨rfl, hb⟩
              replace HX := Lib.hid (HX.out.keep hb)
              replace HY := Lib.hid (HY.out.keep hb)
              replace HP := Lib.hid (HP.out.keep hb)
              replace HQ := Lib.hid (HQ.out.keep hb)
              replace HZ := Lib.hid (HZ.out.keep hb)
              replace HT := Lib.hid (HT.out.keep hb)
              replace HB1 := Lib.hid (HB1.out.keep hb)
              replace HB2 := Lib.hid (HB2.out.keep hb)
              replace HB3 := Lib.hid (HB3.out.keep hb)
              replace HBd := Lib.hid (HBd.out.keep hb)
              replace HB := bel_tr HB hb
              clear hb
              clear k0 k1 k2 k3 k4 k5
              have k0 := HB1.out.1
              have k1 := HB1.out.2
              have k2 := HB2.out.1
              have k3 := HB2.out.2
              have k4 := HB3.out.1
              have k5 := HB3.out.2
              go_wp2_with fail
              refine (HV3.out _ HZ.out HT.out).mono ?_
              rintro e w7 ⟨rfl, hb⟩
              replace HX := Lib.hid (HX.out.keep hb)
              replace HY := Lib.hid (HY.out.keep hb)
              replace HP := Lib.hid (HP.out.keep hb)
              replace HQ := Lib.hid (HQ.out.keep hb)
              replace HZ := Lib.hid (HZ.out.keep hb)
              replace HT := Lib.hid (HT.out.keep hb)
              replace HB1 := Lib.hid (HB1.out.keep hb)
              replace HB2 := Lib.hid (HB2.out.keep hb)
              replace HB3 := Lib.hid (HB3.out.keep hb)
              replace HBd := Lib.hid (HBd.out.keep hb)
              replace HB := bel_tr HB hb
              clear hb
              clear k0 k1 k2 k3 k4 k5
              have k0 := HB1.out.1
              have k1 := HB1.out.2
              have k2 := HB2.out.1
              have k3 := HB2.out.2
              have k4 := HB3.out.1
              have k5 := HB3.out.2
              go_wp2_with fail
              refine (HC1.out _ HX.out HY.out).mono ?_
              rintro e w8 ⟨xx, yx, rfl, ho, hb⟩
              obtain ⟨ax, nx, bx, mx, rfl, rfl⟩ := ho.shape
              have HSxa := Lib.hid (SV.of_od ho.1)
              have HSxb := Lib.hid (SV.of_od ho.2)
              clear ho
              simp only at HSxa HSxb
              replace HX := Lib.hid (HX.out.keep hb)
              replace HY := Lib.hid (HY.out.keep hb)
              replace HP := Lib.hid (HP.out.keep hb)
              replace HQ := Lib.hid (HQ.out.keep hb)
              replace HZ := Lib.hid (HZ.out.keep hb)
              replace HT := Lib.hid (HT.out.keep hb)
              replace HB1 := Lib.hid (HB1.out.keep hb)
              replace HB2 := Lib.hid (HB2.out.keep hb)
              replace HB3 := Lib.hid (HB3.out.keep hb)
              replace HBd := Lib.hid (HBd.out.keep hb)
              replace HB := bel_tr HB hb
              clear hb
              have HOx := Lib.hid (two_new w8 (.slice ax s1.length nx) (.slice bx s2.length mx))
              have hb := bel_box w8 (cbox (.slice ax s1.length nx) (.slice bx s2.length mx))
              replace HX := Lib.hid (HX.out.keep hb)
              replace HY := Lib.hid (HY.out.keep hb)
              replace HP := Lib.hid (HP.out.keep hb)
              replace HQ := Lib.hid (HQ.out.keep hb)
              replace HZ := Lib.hid (HZ.out.keep hb)
              replace HT := Lib.hid (HT.out.keep hb)
              replace HB1 := Lib.hid (HB1.out.keep hb)
              replace HB2 := Lib.hid (HB2.out.keep hb)
              replace HB3 := Lib.hid (HB3.out.keep hb)
              replace HBd := Lib.hid (HBd.out.keep hb)
              replace HSxa := Lib.hid (HSxa.out.keep hb)
              replace HSxb := Lib.hid (HSxb.out.keep hb)
              replace HB := bel_tr HB hb
              clear hb
              clear k0 k1 k2 k3 k4 k5
              have k0 := HB1.out.1
              have k1 := HB1.out.2
              have k2 := HB2.out.1
              have k3 := HB2.out.2
              have k4 := HB3.out.1
              have k5 := HB3.out.2
              go_wp2_with fail
              generalize w8.alloc (cbox (.slice ax s1.length nx) (.slice bx s2.length mx)) = w9 at *
              generalize w8.heap.size = gx at *
              go_wp2_with fail
              refine (HC2.out _ HP.out HQ.out).mono ?_
              rintro e w10 ⟨xy, yy, rfl, ho, hb⟩
              obtain ⟨ay, ny, by_, my, rfl, rfl⟩ := ho.shape
              have HSya := Lib.hid (SV.of_od ho.1)
              have HSyb := Lib.hid (SV.of_od ho.2)
              clear ho
              simp only at HSya HSyb
              replace HX := Lib.hid (HX.out.keep hb)
              replace HY := Lib.hid (HY.out.keep hb)
              replace HP := Lib.hid (HP.out.keep hb)
              replace HQ := Lib.hid (HQ.out.keep hb)
              replace HZ := Lib.hid (HZ.out.keep hb)
              replace HT := Lib.hid (HT.out.keep hb)
              replace HB1 := Lib.hid (HB1.out.keep hb)
              replace HB2 := Lib.hid (HB2.out.keep hb)
              replace HB3 := Lib.hid (HB3.out.keep hb)
              replace HBd := Lib.hid (HBd.out.keep hb)
              replace HSxa := Lib.hid (HSxa.out.keep hb)
              replace HSxb := Lib.hid (HSxb.out.keep hb)
              replace HOx := Lib.hid (HOx.out.keep hb)
              replace HB := bel_tr HB hb
              clear hb
              have HOy := Lib.hid (two_new w10 (.slice ay s3.length ny) (.slice by_ s4.length my))
              have hb := bel_box w10 (cbox (.slice ay s3.length ny) (.slice by_ s4.length my))
              replace HX := Lib.hid (HX.out.keep hb)
              replace HY := Lib.hid (HY.out.keep hb)
              replace HP := Lib.hid (HP.out.keep hb)
              replace HQ := Lib.hid (HQ.out.keep hb)
              replace HZ := Lib.hid (HZ.out.keep hb)
              replace HT := Lib.hid (HT.out.keep hb)
              replace HB1 := Lib.hid (HB1.out.keep hb)
              replace HB2 := Lib.hid (HB2.out.keep hb)
              replace HB3 := Lib.hid (HB3.out.keep hb)
              replace HBd := Lib.hid (HBd.out.keep hb)
              replace HSxa := Lib.hid (HSxa.out.keep hb)
              replace HSxb := Lib.hid (HSxb.out.keep hb)
              replace HOx := Lib.hid (HOx.out.keep hb)
              replace HSya := Lib.hid (HSya.out.keep hb)
              replace HSyb := Lib.hid (HSyb.out.keep hb)
              replace HB := bel_tr HB hb
              clear hb
              clear k0 k1 k2 k3 k4 k5
              have k0 := HB1.out.1
              have k1 := HB1.out.2
              have k2 := HB2.out.1
              have k3 := HB2.out.2
              have k4 := HB3.out.1
              have k5 := HB3.out.2
              go_wp2_with fail
              generalize w10.alloc (cbox (.slice ay s3.length ny) (.slice by_ s4.length my)) = w11 at *
              generalize w10.heap.size = gy at *
              refine (HW1.out _ HX.out HY.out HP.out HQ.out).mono ?_
              rintro e w12 ⟨rfl, hb⟩
              replace HX := Lib.hid (HX.out.keep hb)
              replace HY := Lib.hid (HY.out.keep hb)
              replace HP := Lib.hid (HP.out.keep hb)
              replace HQ := Lib.hid (HQ.out.keep hb)
              replace HZ := Lib.hid (HZ.out.keep hb)
              replace HT := Lib.hid (HT.out.keep hb)
              replace HB1 := Lib.hid (HB1.out.keep hb)
              replace HB2 := Lib.hid (HB2.out.keep hb)
              replace HB3 := Lib.hid (HB3.out.keep hb)
              replace HBd := Lib.hid (HBd.out.keep hb)
              replace HSxa := Lib.hid (HSxa.out.keep hb)
              replace HSxb := Lib.hid (HSxb.out.keep hb)
              replace HOx := Lib.hid (HOx.out.keep hb)
              replace HSya := Lib.hid (HSya.out.keep hb)
              replace HSyb := Lib.hid (HSyb.out.keep hb)
              replace HOy := Lib.hid (HOy.out.keep hb)
              replace HB := bel_tr HB hb
              clear hb
              clear k0 k1 k2 k3 k4 k5
              have k0 := HB1.out.1
              have k1 := HB1.out.2
              have k2 := HB2.out.1
              have k3 := HB2.out.2
              have k4 := HB3.out.1
              have k5 := HB3.out.2
              go_wp2_with fail
              refine (HW2.out _ HX.out HY.out HP.out HQ.out).mono ?_
              rintro e w13 ⟨rfl, hb⟩
              replace HX := Lib.hid (HX.out.keep hb)
              replace HY := Lib.hid (HY.out.keep hb)
              replace HP := Lib.hid (HP.out.keep hb)
              replace HQ := Lib.hid (HQ.out.keep hb)
              replace HZ := Lib.hid (HZ.out.keep hb)
              replace HT := Lib.hid (HT.out.keep hb)
              replace HB1 := Lib.hid (HB1.out.keep hb)
              replace HB2 := Lib.hid (HB2.out.keep hb)
              replace HB3 := Lib.hid (HB3.out.keep hb)
              replace HBd := Lib.hid (HBd.out.keep hb)
              replace HSxa := Lib.hid (HSxa.out.keep hb)
              replace HSxb := Lib.hid (HSxb.out.keep hb)
              replace HOx := Lib.hid (HOx.out.keep hb)
              replace HSya := Lib.hid (HSya.out.keep hb)
              replace HSyb := Lib.hid (HSyb.out.keep hb)
              replace HOy := Lib.hid (HOy.out.keep hb)
              replace HB := bel_tr HB hb
              clear hb
              clear k0 k1 k2 k3 k4 k5

              go_wp2_with fail
              have HK : Hid ((S4 w.heap.size (w.heap.size + 1) gx gy (.slice a xs.length n) (.slice b ys.length m) (.slice p us.length j) (.slice q vs.length k) (.slice ax s1.length nx) (.slice bx s2.length mx) (.slice ay s3.length ny) (.slice by_ s4.length my)) w13) := ⟨HB1.out, HB2.out, HOx.out, HOy.out⟩
              refine Sch.wp_region_tree (S4 w.heap.size (w.heap.size + 1) gx gy (.slice a xs.length n) (.slice b ys.length m) (.slice p us.length j) (.slice q vs.length k) (.slice ax s1.length nx) (.slice bx s2.length mx) (.slice ay s3.length ny) (.slice by_ s4.length my)) (.take 0 (.take 1 (.take 2 (.take 3 (.take 4 (.take 5 (.take 6 (.take 7 (.take 8 (.take 9 (.take 10 (.take 11 (.take 12 (.take 13 (.take 14 (.take 15 (.take 16 (.take 18 (.one 17 (.take 19 (.take 20 (.take 21 (.take 22 (.take 23 (.take 24 (.take 25 (.one 26 (.take 27 (.take 28 (.take 29 (.take 30 (.take 31 (.one 32 (.take 33 (.take 34 (.take 35 (.take 36 (.take 38 (.one 37 (.one 39 (.take 40 (.take 41 .done)))))))))))))))))))))))))))))))))))))))))) (by kernel_rfl) (by kernel_rfl) (HK.out.keep ((Below.refl _ _).drew)) ?_
              have hb : Below w13.heap.size w13 w13.drew := (Below.refl _ _).drew
              replace HX := Lib.hid (HX.out.keep hb)
              replace HY := Lib.hid (HY.out.keep hb)
              replace HP := Lib.hid (HP.out.keep hb)
              replace HQ := Lib.hid (HQ.out.keep hb)
              replace HZ := Lib.hid (HZ.out.keep hb)
              replace HT := Lib.hid (HT.out.keep hb)
              replace HB1 := Lib.hid (HB1.out.keep hb)
              replace HB2 := Lib.hid (HB2.out.keep hb)
              replace HB3 := Lib.hid (HB3.out.keep hb)
              replace HBd := Lib.hid (HBd.out.keep hb)
              replace HSxa := Lib.hid (HSxa.out.keep hb)
              replace HSxb := Lib.hid (HSxb.out.keep hb)
              replace HOx := Lib.hid (HOx.out.keep hb)
              replace HSya := Lib.hid (HSya.out.keep hb)
              replace HSyb := Lib.hid (HSyb.out.keep hb)
              replace HOy := Lib.hid (HOy.out.keep hb)
              replace HK := Lib.hid (HK.out.keep hb)
              replace HB := bel_tr HB hb
              clear hb
              generalize w13.drew = w14 at *
              refine Sch.tree_q rfl rfl (fun K hK => ?_)
              go_big_quiet_op
              first | refine hK _ ?_ | refine ⟨_, fun _ _ => rfl, hK _ ?_⟩
              clear hK K
              refine Sch.tree_q rfl rfl (fun K hK => ?_)
              go_big_quiet_op
              first | refine hK _ ?_ | refine ⟨_, fun _ _ => rfl, hK _ ?_⟩
              clear hK K
              refine Sch.tree_q rfl rfl (fun K hK => ?_)
              go_big_quiet_op
              first | refine hK _ ?_ | refine ⟨_, fun _ _ => rfl, hK _ ?_⟩
              clear hK K
              refine Sch.tree_q rfl rfl (fun K hK => ?_)
              go_big_quiet_op
              first | refine hK _ ?_ | refine ⟨_, fun _ _ => rfl, hK _ ?_⟩
              clear hK K
              refine Sch.tree_q rfl rfl (fun K hK => ?_)
              go_big_quiet_op
              first | refine hK _ ?_ | refine ⟨_, fun _ _ => rfl, hK _ ?_⟩
              clear hK K
              refine Sch.tree_q rfl rfl (fun K hK => ?_)
              go_big_quiet_op
              first | refine hK _ ?_ | refine ⟨_, fun _ _ => rfl, hK _ ?_⟩
              clear hK K
              refine Sch.tree_q rfl rfl (fun K hK => ?_)
              go_big_quiet_op
              first | refine hK _ ?_ | refine ⟨_, fun _ _ => rfl, hK _ ?_⟩
              clear hK K
              refine Sch.tree_q rfl rfl (fun K hK => ?_)
              go_big_quiet_op
              first | refine hK _ ?_ | refine ⟨_, fun _ _ => rfl, hK _ ?_⟩
              clear hK K
              refine Sch.tree_q rfl rfl (fun K hK => ?_)
              go_big_quiet_op
              first | refine hK _ ?_ | refine ⟨_, fun _ _ => rfl, hK _ ?_⟩
              clear hK K
              refine Sch.tree_q rfl rfl (fun K hK => ?_)
              go_big_quiet_op
              first | refine hK _ ?_ | refine ⟨_, fun _ _ => rfl, hK _ ?_⟩
              clear hK K
              refine Sch.tree_q rfl rfl (fun K hK => ?_)
              go_big_quiet_op
              first | refine hK _ ?_ | refine ⟨_, fun _ _ => rfl, hK _ ?_⟩
              clear hK K
              refine Sch.tree_q rfl rfl (fun K hK => ?_)
              go_big_quiet_op
              first | refine hK _ ?_ | refine ⟨_, fun _ _ => rfl, hK _ ?_⟩
              clear hK K
              refine Sch.tree_q rfl rfl (fun K hK => ?_)
              go_big_quiet_op
              first | refine hK _ ?_ | refine ⟨_, fun _ _ => rfl, hK _ ?_⟩
              clear hK K
              refine Sch.tree_q rfl rfl (fun K hK => ?_)
              go_big_quiet_op
              first | refine hK _ ?_ | refine ⟨_, fun _ _ => rfl, hK _ ?_⟩
              clear hK K
              refine Sch.tree_q rfl rfl (fun K hK => ?_)
              go_big_quiet_op
              first | refine hK _ ?_ | refine ⟨_, fun _ _ => rfl, hK _ ?_⟩
              clear hK K
              refine tree_load _ _ _ _ _ rfl rfl rfl rfl (by first | exact S4.a | exact S4.b | exact S4.c | exact S4.dd) rfl ?_
              simp only [Act.put, List.setIfInBounds_toArray, List.set_cons_zero, List.set_cons_succ]
              refine tree_load _ _ _ _ _ rfl rfl rfl rfl (by first | exact S4.a | exact S4.b | exact S4.c | exact S4.dd) rfl ?_
              simp only [Act.put, List.setIfInBounds_toArray, List.set_cons_zero, List.set_cons_succ]
              refine Sch.tree_q rfl rfl (fun K hK => ?_)
              go_big_quiet_op
              first | refine hK _ ?_ | refine ⟨_, fun _ _ => rfl, hK _ ?_⟩
              clear hK K
              refine Sch.tree_e rfl rfl (fun K hK => ?_)
              go_wp2_with fail
              refine (HE.out ax bx ay by_ nx mx ny my _ (SV.r HSxa.out).1 (SV.r HSxb.out).1 (SV.r HSya.out).1 (SV.r HSyb.out).1).mono ?_
              rintro e w15 ⟨rfl, hb⟩
              replace HX := Lib.hid (HX.out.keep hb)
              replace HY := Lib.hid (HY.out.keep hb)
              replace HP := Lib.hid (HP.out.keep hb)
              replace HQ := Lib.hid (HQ.out.keep hb)
              replace HZ := Lib.hid (HZ.out.keep hb)
              replace HT := Lib.hid (HT.out.keep hb)
              replace HB1 := Lib.hid (HB1.out.keep hb)
              replace HB2 := Lib.hid (HB2.out.keep hb)
              replace HB3 := Lib.hid (HB3.out.keep hb)
              replace HBd := Lib.hid (HBd.out.keep hb)
              replace HSxa := Lib.hid (HSxa.out.keep hb)
              replace HSxb := Lib.hid (HSxb.out.keep hb)
              replace HOx := Lib.hid (HOx.out.keep hb)
              replace HSya := Lib.hid (HSya.out.keep hb)
              replace HSyb := Lib.hid (HSyb.out.keep hb)
              replace HOy := Lib.hid (HOy.out.keep hb)
              replace HK := Lib.hid (HK.out.keep hb)
              replace HB := bel_tr HB hb
              clear hb
              refine hK _ _ HK.out ?_
              clear hK K
              refine Sch.tree_q rfl rfl (fun K hK => ?_)
              go_big_quiet_op
              first | refine hK _ ?_ | refine ⟨_, fun _ _ => rfl, hK _ ?_⟩
              clear hK K
              obtain hv | hv : t1 = false ∨ t1 = true := by cases t1 <;> simp
              · have hwv : (some t1 == some true) = false := by rw [hv]; rfl
                refine Sch.tree_s _ rfl hwv rfl ?_
                simp only [Act.put, List.setIfInBounds_toArray, List.set_cons_zero, List.set_cons_succ]
                have e1 : tt = false := by rw [← Htt.out, hv]; rfl
                subst e1 hv
                refine Sch.tree_q rfl rfl (fun K hK => ?_)
                go_big_quiet_op
                first | refine hK _ ?_ | refine ⟨_, fun _ _ => rfl, hK _ ?_⟩
                clear hK K
                refine Sch.tree_q rfl rfl (fun K hK => ?_)
                go_big_quiet_op
                first | refine hK _ ?_ | refine ⟨_, fun _ _ => rfl, hK _ ?_⟩
                clear hK K
                refine Sch.tree_q rfl rfl (fun K hK => ?_)
                go_big_quiet_op
                first | refine hK _ ?_ | refine ⟨_, fun _ _ => rfl, hK _ ?_⟩
                clear hK K
                refine Sch.tree_q rfl rfl (fun K hK => ?_)
                go_big_quiet_op
                first | refine hK _ ?_ | refine ⟨_, fun _ _ => rfl, hK _ ?_⟩
                clear hK K
                refine tree_load _ _ _ _ _ rfl rfl rfl rfl (by first | exact S4.a | exact S4.b | exact S4.c | exact S4.dd) rfl ?_
                simp only [Act.put, List.setIfInBounds_toArray, List.set_cons_zero, List.set_cons_succ]
                refine Sch.tree_e rfl rfl (fun K hK => ?_)
                go_wp2_with fail
                refine (HI.out ax bx nx mx _ (SV.r HSxa.out).1 (SV.r HSxb.out).1).mono ?_
                rintro e w16 ⟨rfl, hb⟩
                replace HX := Lib.hid (HX.out.keep hb)
                replace HY := Lib.hid (HY.out.keep hb)
                replace HP := Lib.hid (HP.out.keep hb)
                replace HQ := Lib.hid (HQ.out.keep hb)
                replace HZ := Lib.hid (HZ.out.keep hb)
                replace HT := Lib.hid (HT.out.keep hb)
                replace HB1 := Lib.hid (HB1.out.keep hb)
                replace HB2 := Lib.hid (HB2.out.keep hb)
                replace HB3 := Lib.hid (HB3.out.keep hb)
                replace HBd := Lib.hid (HBd.out.keep hb)
                replace HSxa := Lib.hid (HSxa.out.keep hb)
                replace HSxb := Lib.hid (HSxb.out.keep hb)
                replace HOx := Lib.hid (HOx.out.keep hb)
                replace HSya := Lib.hid (HSya.out.keep hb)
                replace HSyb := Lib.hid (HSyb.out.keep hb)
                replace HOy := Lib.hid (HOy.out.keep hb)
                replace HK := Lib.hid (HK.out.keep hb)
                replace HB := bel_tr HB hb
                clear hb
                refine hK _ _ HK.out ?_
                clear hK K
                refine Sch.tree_q rfl rfl (fun K hK => ?_)
                go_big_quiet_op
                first | refine hK _ ?_ | refine ⟨_, fun _ _ => rfl, hK _ ?_⟩
                clear hK K
                refine Sch.tree_q rfl rfl (fun K hK => ?_)
                go_big_quiet_op
                first | refine hK _ ?_ | refine ⟨_, fun _ _ => rfl, hK _ ?_⟩
                clear hK K
                refine Sch.tree_q rfl rfl (fun K hK => ?_)
                go_big_quiet_op
                first | refine hK _ ?_ | refine ⟨_, fun _ _ => rfl, hK _ ?_⟩
                clear hK K
                refine tree_load _ _ _ _ _ rfl rfl rfl rfl (by first | exact S4.a | exact S4.b | exact S4.c | exact S4.dd) rfl ?_
                simp only [Act.put, List.setIfInBounds_toArray, List.set_cons_zero, List.set_cons_succ]
                refine tree_load _ _ _ _ _ rfl rfl rfl rfl (by first | exact S4.a | exact S4.b | exact S4.c | exact S4.dd) rfl ?_
                simp only [Act.put, List.setIfInBounds_toArray, List.set_cons_zero, List.set_cons_succ]
                refine Sch.tree_e rfl rfl (fun K hK => ?_)
                go_wp2_with fail
                refine (HCt.out ax bx nx mx _ _ _ (SV.r HSxa.out).1 (SV.r HSxb.out).1 (SV.r HSxa.out).2.1 HSxa.out HSxb.out).mono ?_
                rintro e w17 ⟨rfl, hb⟩
                replace HX := Lib.hid (HX.out.keep hb)
                replace HY := Lib.hid (HY.out.keep hb)
                replace HP := Lib.hid (HP.out.keep hb)
                replace HQ := Lib.hid (HQ.out.keep hb)
                replace HZ := Lib.hid (HZ.out.keep hb)
                replace HT := Lib.hid (HT.out.keep hb)
                replace HB1 := Lib.hid (HB1.out.keep hb)
                replace HB2 := Lib.hid (HB2.out.keep hb)
                replace HB3 := Lib.hid (HB3.out.keep hb)
                replace HBd := Lib.hid (HBd.out.keep hb)
                replace HSxa := Lib.hid (HSxa.out.keep hb)
                replace HSxb := Lib.hid (HSxb.out.keep hb)
                replace HOx := Lib.hid (HOx.out.keep hb)
                replace HSya := Lib.hid (HSya.out.keep hb)
                replace HSyb := Lib.hid (HSyb.out.keep hb)
                replace HOy := Lib.hid (HOy.out.keep hb)
                replace HK := Lib.hid (HK.out.keep hb)
                replace HB := bel_tr HB hb
                clear hb
                refine hK _ _ HK.out ?_
                clear hK K
                refine Sch.tree_q rfl rfl (fun K hK => ?_)
                go_big_quiet_op
                first | refine hK _ ?_ | refine ⟨_, fun _ _ => rfl, hK _ ?_⟩
                clear hK K
                refine Sch.tree_q rfl rfl (fun K hK => ?_)
                go_big_quiet_op
                first | refine hK _ ?_ | refine ⟨_, fun _ _ => rfl, hK _ ?_⟩
                clear hK K
                refine Sch.tree_q rfl rfl (fun K hK => ?_)
                go_big_quiet_op
                first | refine hK _ ?_ | refine ⟨_, fun _ _ => rfl, hK _ ?_⟩
                clear hK K
                refine tree_load _ _ _ _ _ rfl rfl rfl rfl (by first | exact S4.a | exact S4.b | exact S4.c | exact S4.dd) rfl ?_
                simp only [Act.put, List.setIfInBounds_toArray, List.set_cons_zero, List.set_cons_succ]
                refine tree_load _ _ _ _ _ rfl rfl rfl rfl (by first | exact S4.a | exact S4.b | exact S4.c | exact S4.dd) rfl ?_
                simp only [Act.put, List.setIfInBounds_toArray, List.set_cons_zero, List.set_cons_succ]
                refine Sch.tree_e rfl rfl (fun K hK => ?_)
                go_wp2_with fail
                refine (HS1.out ax bx nx mx _ (SV.r HSxa.out).1 (SV.r HSxb.out).1).mono ?_
                rintro e w18 ⟨rfl, hb⟩
                replace HX := Lib.hid (HX.out.keep hb)
                replace HY := Lib.hid (HY.out.keep hb)
                replace HP := Lib.hid (HP.out.keep hb)
                replace HQ := Lib.hid (HQ.out.keep hb)
                replace HZ := Lib.hid (HZ.out.keep hb)
                replace HT := Lib.hid (HT.out.keep hb)
                replace HB1 := Lib.hid (HB1.out.keep hb)
                replace HB2 := Lib.hid (HB2.out.keep hb)
                replace HB3 := Lib.hid (HB3.out.keep hb)
                replace HBd := Lib.hid (HBd.out.keep hb)
                replace HSxa := Lib.hid (HSxa.out.keep hb)
                replace HSxb := Lib.hid (HSxb.out.keep hb)
                replace HOx := Lib.hid (HOx.out.keep hb)
                replace HSya := Lib.hid (HSya.out.keep hb)
                replace HSyb := Lib.hid (HSyb.out.keep hb)
                replace HOy := Lib.hid (HOy.out.keep hb)
                replace HK := Lib.hid (HK.out.keep hb)
                replace HB := bel_tr HB hb
                clear hb
                refine hK _ _ HK.out ?_
                clear hK K
                refine Sch.tree_e rfl rfl (fun K hK => ?_)
                go_wp2_with fail
                refine (HS2.out _ HX.out HY.out).mono ?_
                rintro e w19 ⟨rfl, hb⟩
                replace HX := Lib.hid (HX.out.keep hb)
                replace HY := Lib.hid (HY.out.keep hb)
                replace HP := Lib.hid (HP.out.keep hb)
                replace HQ := Lib.hid (HQ.out.keep hb)
                replace HZ := Lib.hid (HZ.out.keep hb)
                replace HT := Lib.hid (HT.out.keep hb)
                replace HB1 := Lib.hid (HB1.out.keep hb)
                replace HB2 := Lib.hid (HB2.out.keep hb)
                replace HB3 := Lib.hid (HB3.out.keep hb)
                replace HBd := Lib.hid (HBd.out.keep hb)
                replace HSxa := Lib.hid (HSxa.out.keep hb)
                replace HSxb := Lib.hid (HSxb.out.keep hb)
                replace HOx := Lib.hid (HOx.out.keep hb)
                replace HSya := Lib.hid (HSya.out.keep hb)
                replace HSyb := Lib.hid (HSyb.out.keep hb)
                replace HOy := Lib.hid (HOy.out.keep hb)
                replace HK := Lib.hid (HK.out.keep hb)
                replace HB := bel_tr HB hb
                clear hb
                refine hK _ _ HK.out ?_
                clear hK K
                refine Sch.tree_q rfl rfl (fun K hK => ?_)
                go_big_quiet_op
                first | refine hK _ ?_ | refine ⟨_, fun _ _ => rfl, hK _ ?_⟩
                clear hK K
                refine Sch.tree_q rfl rfl (fun K hK => ?_)
                go_big_quiet_op
                first | refine hK _ ?_ | refine ⟨_, fun _ _ => rfl, hK _ ?_⟩
                clear hK K
                refine Sch.tree_n ?_
                clear HK
                have k0 := HB1.out.1
                have k1 := HB1.out.2
                have k2 := HB2.out.1
                have k3 := HB2.out.2
                have k4 := HB3.out.1
                have k5 := HB3.out.2
                go_wp2_with fail
                refine (HU1.out _ HX.out HY.out HP.out HQ.out).mono ?_
                rintro e w20 ⟨xu, yu, rfl, ho, hb⟩
                obtain ⟨au, nu, bu, mu, rfl, rfl⟩ := ho.shape
                have HSua := Lib.hid (SV.of_od ho.1)
                have HSub := Lib.hid (SV.of_od ho.2)
                clear ho
                simp only at HSua HSub
                replace HX := Lib.hid (HX.out.keep hb)
                replace HY := Lib.hid (HY.out.keep hb)
                replace HP := Lib.hid (HP.out.keep hb)
                replace HQ := Lib.hid (HQ.out.keep hb)
                replace HZ := Lib.hid (HZ.out.keep hb)
                replace HT := Lib.hid (HT.out.keep hb)
                replace HB1 := Lib.hid (HB1.out.keep hb)
                replace HB2 := Lib.hid (HB2.out.keep hb)
                replace HB3 := Lib.hid (HB3.out.keep hb)
                replace HBd := Lib.hid (HBd.out.keep hb)
                replace HSxa := Lib.hid (HSxa.out.keep hb)
                replace HSxb := Lib.hid (HSxb.out.keep hb)
                replace HOx := Lib.hid (HOx.out.keep hb)
                replace HSya := Lib.hid (HSya.out.keep hb)
                replace HSyb := Lib.hid (HSyb.out.keep hb)
                replace HOy := Lib.hid (HOy.out.keep hb)
                replace HB := bel_tr HB hb
                clear hb
                have HOu := Lib.hid (two_new w20 (.slice au u1.length nu) (.slice bu u2.length mu))
                have hb := bel_box w20 (cbox (.slice au u1.length nu) (.slice bu u2.length mu))
                replace HX := Lib.hid (HX.out.keep hb)
                replace HY := Lib.hid (HY.out.keep hb)
                replace HP := Lib.hid (HP.out.keep hb)
                replace HQ := Lib.hid (HQ.out.keep hb)
                replace HZ := Lib.hid (HZ.out.keep hb)
                replace HT := Lib.hid (HT.out.keep hb)
                replace HB1 := Lib.hid (HB1.out.keep hb)
                replace HB2 := Lib.hid (HB2.out.keep hb)
                replace HB3 := Lib.hid (HB3.out.keep hb)
                replace HBd := Lib.hid (HBd.out.keep hb)
                replace HSxa := Lib.hid (HSxa.out.keep hb)
                replace HSxb := Lib.hid (HSxb.out.keep hb)
                replace HOx := Lib.hid (HOx.out.keep hb)
                replace HSya := Lib.hid (HSya.out.keep hb)
                replace HSyb := Lib.hid (HSyb.out.keep hb)
                replace HOy := Lib.hid (HOy.out.keep hb)
                replace HSua := Lib.hid (HSua.out.keep hb)
                replace HSub := Lib.hid (HSub.out.keep hb)
                replace HB := bel_tr HB hb
                clear hb
                clear k0 k1 k2 k3 k4 k5
                have k0 := HB1.out.1
                have k1 := HB1.out.2
                have k2 := HB2.out.1
                have k3 := HB2.out.2
                have k4 := HB3.out.1
                have k5 := HB3.out.2
                go_wp2_with fail
                generalize w20.alloc (cbox (.slice au u1.length nu) (.slice bu u2.length mu)) = w21 at *
                generalize w20.heap.size = gu at *
                refine (HU2.out _ HP.out HQ.out HZ.out HT.out).mono ?_
                rintro e w22 ⟨xv, yv, rfl, ho, hb⟩
                obtain ⟨av, nv, bv, mv, rfl, rfl⟩ := ho.shape
                have HSva := Lib.hid (SV.of_od ho.1)
                have HSvb := Lib.hid (SV.of_od ho.2)
                clear ho
                simp only at HSva HSvb
                replace HX := Lib.hid (HX.out.keep hb)
                replace HY := Lib.hid (HY.out.keep hb)
                replace HP := Lib.hid (HP.out.keep hb)
                replace HQ := Lib.hid (HQ.out.keep hb)
                replace HZ := Lib.hid (HZ.out.keep hb)
                replace HT := Lib.hid (HT.out.keep hb)
                replace HB1 := Lib.hid (HB1.out.keep hb)
                replace HB2 := Lib.hid (HB2.out.keep hb)
                replace HB3 := Lib.hid (HB3.out.keep hb)
                replace HBd := Lib.hid (HBd.out.keep hb)
                replace HSxa := Lib.hid (HSxa.out.keep hb)
                replace HSxb := Lib.hid (HSxb.out.keep hb)
                replace HOx := Lib.hid (HOx.out.keep hb)
                replace HSya := Lib.hid (HSya.out.keep hb)
                replace HSyb := Lib.hid (HSyb.out.keep hb)
                replace HOy := Lib.hid (HOy.out.keep hb)
                replace HSua := Lib.hid (HSua.out.keep hb)
                replace HSub := Lib.hid (HSub.out.keep hb)
                replace HOu := Lib.hid (HOu.out.keep hb)
                replace HB := bel_tr HB hb
                clear hb
                have HOv := Lib.hid (two_new w22 (.slice av v1.length nv) (.slice bv v2.length mv))
                have hb := bel_box w22 (cbox (.slice av v1.length nv) (.slice bv v2.length mv))
                replace HX := Lib.hid (HX.out.keep hb)
                replace HY := Lib.hid (HY.out.keep hb)
                replace HP := Lib.hid (HP.out.keep hb)
                replace HQ := Lib.hid (HQ.out.keep hb)
                replace HZ := Lib.hid (HZ.out.keep hb)
                replace HT := Lib.hid (HT.out.keep hb)
                replace HB1 := Lib.hid (HB1.out.keep hb)
                replace HB2 := Lib.hid (HB2.out.keep hb)
                replace HB3 := Lib.hid (HB3.out.keep hb)
                replace HBd := Lib.hid (HBd.out.keep hb)
                replace HSxa := Lib.hid (HSxa.out.keep hb)
                replace HSxb := Lib.hid (HSxb.out.keep hb)
                replace HOx := Lib.hid (HOx.out.keep hb)
                replace HSya := Lib.hid (HSya.out.keep hb)
                replace HSyb := Lib.hid (HSyb.out.keep hb)
                replace HOy := Lib.hid (HOy.out.keep hb)
                replace HSua := Lib.hid (HSua.out.keep hb)
                replace HSub := Lib.hid (HSub.out.keep hb)
                replace HOu := Lib.hid (HOu.out.keep hb)
                replace HSva := Lib.hid (HSva.out.keep hb)
                replace HSvb := Lib.hid (HSvb.out.keep hb)
                replace HB := bel_tr HB hb
                clear hb
                clear k0 k1 k2 k3 k4 k5
                go_wp2_with fail
                generalize w22.alloc (cbox (.slice av v1.length nv) (.slice bv v2.length mv)) = w23 at *
                generalize w22.heap.size = gv at *
                have HK : Hid ((S5 w.heap.size (w.heap.size + 1) gx gu (w.heap.size + 1 + 1 + 1) (.slice a xs.length n) (.slice b ys.length m) (.slice p us.length j) (.slice q vs.length k) (.slice ax s1.length nx) (.slice bx s2.length mx) (.slice au u1.length nu) (.slice bu u2.length mu) (d1, d2)) w23) := ⟨⟨HB1.out, HB2.out, HOx.out, HOu.out⟩, HBd.out⟩
                refine Sch.wp_region_tree (S5 w.heap.size (w.heap.size + 1) gx gu (w.heap.size + 1 + 1 + 1) (.slice a xs.length n) (.slice b ys.length m) (.slice p us.length j) (.slice q vs.length k) (.slice ax s1.length nx) (.slice bx s2.length mx) (.slice au u1.length nu) (.slice bu u2.length mu) (d1, d2)) (.take 0 (.take 1 (.take 2 (.take 3 (.take 4 (.take 5 (.take 6 (.take 7 (.take 8 (.take 9 (.one 10 (.take 11 (.take 12 (.take 13 (.take 14 (.take 15 (.take 17 (.take 18 (.one 16 (.one 19 (.take 20 (.take 21 (.take 22 (.one 23 (.take 24 (.take 25 (.take 26 (.take 27 (.take 28 (.take 29 (.one 30 (.take 31 (.take 32 .done))))))))))))))))))))))))))))))))) (by kernel_rfl) (by kernel_rfl) (HK.out.keep ((Below.refl _ _).drew)) ?_
                have hb : Below w23.heap.size w23 w23.drew := (Below.refl _ _).drew
                replace HX := Lib.hid (HX.out.keep hb)
                replace HY := Lib.hid (HY.out.keep hb)
                replace HP := Lib.hid (HP.out.keep hb)
                replace HQ := Lib.hid (HQ.out.keep hb)
                replace HZ := Lib.hid (HZ.out.keep hb)
                replace HT := Lib.hid (HT.out.keep hb)
                replace HB1 := Lib.hid (HB1.out.keep hb)
                replace HB2 := Lib.hid (HB2.out.keep hb)
                replace HB3 := Lib.hid (HB3.out.keep hb)
                replace HBd := Lib.hid (HBd.out.keep hb)
                replace HSxa := Lib.hid (HSxa.out.keep hb)
                replace HSxb := Lib.hid (HSxb.out.keep hb)
                replace HOx := Lib.hid (HOx.out.keep hb)
                replace HSya := Lib.hid (HSya.out.keep hb)
                replace HSyb := Lib.hid (HSyb.out.keep hb)
                replace HOy := Lib.hid (HOy.out.keep hb)
                replace HSua := Lib.hid (HSua.out.keep hb)
                replace HSub := Lib.hid (HSub.out.keep hb)
                replace HOu := Lib.hid (HOu.out.keep hb)
                replace HSva := Lib.hid (HSva.out.keep hb)
                replace HSvb := Lib.hid (HSvb.out.keep hb)
                replace HOv := Lib.hid (HOv.out.keep hb)
                replace HK := Lib.hid (HK.out.keep hb)
                replace HB := bel_tr HB hb
                clear hb
                generalize w23.drew = w24 at *
                refine Sch.tree_q rfl rfl (fun K hK => ?_)
                go_big_quiet_op
                first | refine hK _ ?_ | refine ⟨_, fun _ _ => rfl, hK _ ?_⟩
                clear hK K
                refine Sch.tree_q rfl rfl (fun K hK => ?_)
                go_big_quiet_op
                first | refine hK _ ?_ | refine ⟨_, fun _ _ => rfl, hK _ ?_⟩
                clear hK K
                refine Sch.tree_q rfl rfl (fun K hK => ?_)
                go_big_quiet_op
                first | refine hK _ ?_ | refine ⟨_, fun _ _ => rfl, hK _ ?_⟩
                clear hK K
                refine Sch.tree_q rfl rfl (fun K hK => ?_)
                go_big_quiet_op
                first | refine hK _ ?_ | refine ⟨_, fun _ _ => rfl, hK _ ?_⟩
                clear hK K
                refine Sch.tree_q rfl rfl (fun K hK => ?_)
                go_big_quiet_op
                first | refine hK _ ?_ | refine ⟨_, fun _ _ => rfl, hK _ ?_⟩
                clear hK K
                refine Sch.tree_q rfl rfl (fun K hK => ?_)
                go_big_quiet_op
                first | refine hK _ ?_ | refine ⟨_, fun _ _ => rfl, hK _ ?_⟩
                clear hK K
                refine Sch.tree_q rfl rfl (fun K hK => ?_)
                go_big_quiet_op
                first | refine hK _ ?_ | refine ⟨_, fun _ _ => rfl, hK _ ?_⟩
                clear hK K
                refine tree_load _ _ _ _ _ rfl rfl rfl rfl (by first | exact S5.a | exact S5.b | exact S5.e | exact S5.dt) rfl ?_
                simp only [Act.put, List.setIfInBounds_toArray, List.set_cons_zero, List.set_cons_succ]
                refine tree_load _ _ _ _ _ rfl rfl rfl rfl (by first | exact S5.a | exact S5.b | exact S5.e | exact S5.dt) rfl ?_
                simp only [Act.put, List.setIfInBounds_toArray, List.set_cons_zero, List.set_cons_succ]
                refine tree_load _ _ _ _ _ rfl rfl rfl rfl (by first | exact S5.a | exact S5.b | exact S5.e | exact S5.dt) rfl ?_
                simp only [Act.put, List.setIfInBounds_toArray, List.set_cons_zero, List.set_cons_succ]
                refine Sch.tree_e rfl rfl (fun K hK => ?_)
                go_wp2_with fail
                refine (HUt.out _ _ _ HP.out HQ.out HX.out HY.out HSua.out HSub.out).mono ?_
                rintro e w25 ⟨rfl, hb⟩
                replace HX := Lib.hid (HX.out.keep hb)
                replace HY := Lib.hid (HY.out.keep hb)
                replace HP := Lib.hid (HP.out.keep hb)
                replace HQ := Lib.hid (HQ.out.keep hb)
                replace HZ := Lib.hid (HZ.out.keep hb)
                replace HT := Lib.hid (HT.out.keep hb)
                replace HB1 := Lib.hid (HB1.out.keep hb)
                replace HB2 := Lib.hid (HB2.out.keep hb)
                replace HB3 := Lib.hid (HB3.out.keep hb)
                replace HBd := Lib.hid (HBd.out.keep hb)
                replace HSxa := Lib.hid (HSxa.out.keep hb)
                replace HSxb := Lib.hid (HSxb.out.keep hb)
                replace HOx := Lib.hid (HOx.out.keep hb)
                replace HSya := Lib.hid (HSya.out.keep hb)
                replace HSyb := Lib.hid (HSyb.out.keep hb)
                replace HOy := Lib.hid (HOy.out.keep hb)
                replace HSua := Lib.hid (HSua.out.keep hb)
                replace HSub := Lib.hid (HSub.out.keep hb)
                replace HOu := Lib.hid (HOu.out.keep hb)
                replace HSva := Lib.hid (HSva.out.keep hb)
                replace HSvb := Lib.hid (HSvb.out.keep hb)
                replace HOv := Lib.hid (HOv.out.keep hb)
                replace HK := Lib.hid (HK.out.keep hb)
                replace HB := bel_tr HB hb
                clear hb
                refine hK _ _ HK.out ?_
                clear hK K
                refine Sch.tree_q rfl rfl (fun K hK => ?_)
                go_big_quiet_op
                first | refine hK _ ?_ | refine ⟨_, fun _ _ => rfl, hK _ ?_⟩
                clear hK K
                refine Sch.tree_q rfl rfl (fun K hK => ?_)
                go_big_quiet_op
                first | refine hK _ ?_ | refine ⟨_, fun _ _ => rfl, hK _ ?_⟩
                clear hK K
                refine Sch.tree_q rfl rfl (fun K hK => ?_)
                go_big_quiet_op
                first | refine hK _ ?_ | refine ⟨_, fun _ _ => rfl, hK _ ?_⟩
                clear hK K
                refine tree_load _ _ _ _ _ rfl rfl rfl rfl (by first | exact S5.a | exact S5.b | exact S5.e | exact S5.dt) rfl ?_
                simp only [Act.put, List.setIfInBounds_toArray, List.set_cons_zero, List.set_cons_succ]
                refine tree_load _ _ _ _ _ rfl rfl rfl rfl (by first | exact S5.a | exact S5.b | exact S5.e | exact S5.dt) rfl ?_
                simp only [Act.put, List.setIfInBounds_toArray, List.set_cons_zero, List.set_cons_succ]
                refine tree_load _ _ _ _ _ rfl rfl rfl rfl (by first | exact S5.a | exact S5.b | exact S5.e | exact S5.dt) rfl ?_
                simp only [Act.put, List.setIfInBounds_toArray, List.set_cons_zero, List.set_cons_succ]
                refine tree_load _ _ _ _ _ rfl rfl rfl rfl (by first | exact S5.a | exact S5.b | exact S5.e | exact S5.dt) rfl ?_
                simp only [Act.put, List.setIfInBounds_toArray, List.set_cons_zero, List.set_cons_succ]
                refine Sch.tree_e rfl rfl (fun K hK => ?_)
                go_wp2_with fail
                refine (HH1.out au bu nu mu _ (SV.r HSua.out).1 (SV.r HSub.out).1).mono ?_
                rintro e w26 ⟨rfl, hb⟩
                replace HX := Lib.hid (HX.out.keep hb)
                replace HY := Lib.hid (HY.out.keep hb)
                replace HP := Lib.hid (HP.out.keep hb)
                replace HQ := Lib.hid (HQ.out.keep hb)
                replace HZ := Lib.hid (HZ.out.keep hb)
                replace HT := Lib.hid (HT.out.keep hb)
                replace HB1 := Lib.hid (HB1.out.keep hb)
                replace HB2 := Lib.hid (HB2.out.keep hb)
                replace HB3 := Lib.hid (HB3.out.keep hb)
                replace HBd := Lib.hid (HBd.out.keep hb)
                replace HSxa := Lib.hid (HSxa.out.keep hb)
                replace HSxb := Lib.hid (HSxb.out.keep hb)
                replace HOx := Lib.hid (HOx.out.keep hb)
                replace HSya := Lib.hid (HSya.out.keep hb)
                replace HSyb := Lib.hid (HSyb.out.keep hb)
                replace HOy := Lib.hid (HOy.out.keep hb)
                replace HSua := Lib.hid (HSua.out.keep hb)
                replace HSub := Lib.hid (HSub.out.keep hb)
                replace HOu := Lib.hid (HOu.out.keep hb)
                replace HSva := Lib.hid (HSva.out.keep hb)
                replace HSvb := Lib.hid (HSvb.out.keep hb)
                replace HOv := Lib.hid (HOv.out.keep hb)
                replace HK := Lib.hid (HK.out.keep hb)
                replace HB := bel_tr HB hb
                clear hb
                refine hK _ _ HK.out ?_
                clear hK K
                refine Sch.tree_e rfl rfl (fun K hK => ?_)
                go_wp2_with fail
                refine (HH2.out _ HX.out HY.out).mono ?_
                rintro e w27 ⟨rfl, hb⟩
                replace HX := Lib.hid (HX.out.keep hb)
                replace HY := Lib.hid (HY.out.keep hb)
                replace HP := Lib.hid (HP.out.keep hb)
                replace HQ := Lib.hid (HQ.out.keep hb)
                replace HZ := Lib.hid (HZ.out.keep hb)
                replace HT := Lib.hid (HT.out.keep hb)
                replace HB1 := Lib.hid (HB1.out.keep hb)
                replace HB2 := Lib.hid (HB2.out.keep hb)
                replace HB3 := Lib.hid (HB3.out.keep hb)
                replace HBd := Lib.hid (HBd.out.keep hb)
                replace HSxa := Lib.hid (HSxa.out.keep hb)
                replace HSxb := Lib.hid (HSxb.out.keep hb)
                replace HOx := Lib.hid (HOx.out.keep hb)
                replace HSya := Lib.hid (HSya.out.keep hb)
                replace HSyb := Lib.hid (HSyb.out.keep hb)
                replace HOy := Lib.hid (HOy.out.keep hb)
                replace HSua := Lib.hid (HSua.out.keep hb)
                replace HSub := Lib.hid (HSub.out.keep hb)
                replace HOu := Lib.hid (HOu.out.keep hb)
                replace HSva := Lib.hid (HSva.out.keep hb)
                replace HSvb := Lib.hid (HSvb.out.keep hb)
                replace HOv := Lib.hid (HOv.out.keep hb)
                replace HK := Lib.hid (HK.out.keep hb)
                replace HB := bel_tr HB hb
                clear hb
                refine hK _ _ HK.out ?_
                clear hK K
                refine Sch.tree_q rfl rfl (fun K hK => ?_)
                go_big_quiet_op
                first | refine hK _ ?_ | refine ⟨_, fun _ _ => rfl, hK _ ?_⟩
                clear hK K
                obtain hv | hv : ha = false ∨ ha = true := by cases ha <;> simp
                · have e1 : hu = hbb := by rw [← Hhu.out, hv]; rfl
                  subst e1 hv
                  have e1 : (hu == hu) = true := by simp
                  refine tree_load _ _ _ _ _ rfl rfl rfl rfl (by first | exact S5.a | exact S5.b | exact S5.e | exact S5.dt) rfl ?_
                  simp only [Act.put, List.setIfInBounds_toArray, List.set_cons_zero, List.set_cons_succ]
                  refine tree_load _ _ _ _ _ rfl rfl rfl rfl (by first | exact S5.a | exact S5.b | exact S5.e | exact S5.dt) rfl ?_
                  simp only [Act.put, List.setIfInBounds_toArray, List.set_cons_zero, List.set_cons_succ]
                  refine Sch.tree_e rfl rfl (fun K hK => ?_)
                  go_wp2_with fail
                  refine (HH3.out _ HP.out HQ.out).mono ?_
                  rintro e w28 ⟨rfl, hb⟩
                  replace HX := Lib.hid (HX.out.keep hb)
                  replace HY := Lib.hid (HY.out.keep hb)
                  replace HP := Lib.hid (HP.out.keep hb)
                  replace HQ := Lib.hid (HQ.out.keep hb)
                  replace HZ := Lib.hid (HZ.out.keep hb)
                  replace HT := Lib.hid (HT.out.keep hb)
                  replace HB1 := Lib.hid (HB1.out.keep hb)
                  replace HB2 := Lib.hid (HB2.out.keep hb)
                  replace HB3 := Lib.hid (HB3.out.keep hb)
                  replace HBd := Lib.hid (HBd.out.keep hb)
                  replace HSxa := Lib.hid (HSxa.out.keep hb)
                  replace HSxb := Lib.hid (HSxb.out.keep hb)
                  replace HOx := Lib.hid (HOx.out.keep hb)
                  replace HSya := Lib.hid (HSya.out.keep hb)
                  replace HSyb := Lib.hid (HSyb.out.keep hb)
                  replace HOy := Lib.hid (HOy.out.keep hb)
                  replace HSua := Lib.hid (HSua.out.keep hb)
                  replace HSub := Lib.hid (HSub.out.keep hb)
                  replace HOu := Lib.hid (HOu.out.keep hb)
                  replace HSva := Lib.hid (HSva.out.keep hb)
                  replace HSvb := Lib.hid (HSvb.out.keep hb)
                  replace HOv := Lib.hid (HOv.out.keep hb)
                  replace HK := Lib.hid (HK.out.keep hb)
                  replace HB := bel_tr HB hb
                  clear hb
                  refine hK _ _ HK.out ?_
                  clear hK K
                  refine Sch.tree_q rfl rfl (fun K hK => ?_)
                  go_big_quiet_op
                  first | refine hK _ ?_ | refine ⟨_, fun _ _ => rfl, hK _ ?_⟩
                  clear hK K
                  refine Sch.tree_q rfl rfl (fun K hK => ?_)
                  go_big_quiet_op
                  first | refine hK _ ?_ | refine ⟨_, fun _ _ => rfl, hK _ ?_⟩
                  clear hK K
                  refine Sch.tree_q rfl rfl (fun K hK => ?_)
                  go_big_quiet_op
                  first | refine hK _ ?_ | refine ⟨_, fun _ _ => rfl, hK _ ?_⟩
                  clear hK K
                  refine Sch.tree_q rfl rfl (fun K hK => ?_)
                  go_big_quiet_op
                  first | refine hK _ ?_ | refine ⟨_, fun _ _ => rfl, hK _ ?_⟩
                  clear hK K
                  refine tree_load _ _ _ _ _ rfl rfl rfl rfl (by first | exact S5.a | exact S5.b | exact S5.e | exact S5.dt) rfl ?_
                  simp only [Act.put, List.setIfInBounds_toArray, List.set_cons_zero, List.set_cons_succ]
                  refine tree_load _ _ _ _ _ rfl rfl rfl rfl (by first | exact S5.a | exact S5.b | exact S5.e | exact S5.dt) rfl ?_
                  simp only [Act.put, List.setIfInBounds_toArray, List.set_cons_zero, List.set_cons_succ]
                  refine Sch.tree_e rfl rfl (fun K hK => ?_)
                  go_wp2_with fail
                  refine (HWt.out au bu nu mu _ HX.out HY.out (SV.r HSua.out).1 (SV.r HSub.out).1 (SV.r HSua.out).2.1).mono ?_
                  rintro e w29 ⟨rfl, hb⟩
                  replace HX := Lib.hid (HX.out.keep hb)
                  replace HY := Lib.hid (HY.out.keep hb)
                  replace HP := Lib.hid (HP.out.keep hb)
                  replace HQ := Lib.hid (HQ.out.keep hb)
                  replace HZ := Lib.hid (HZ.out.keep hb)
                  replace HT := Lib.hid (HT.out.keep hb)
                  replace HB1 := Lib.hid (HB1.out.keep hb)
                  replace HB2 := Lib.hid (HB2.out.keep hb)
                  replace HB3 := Lib.hid (HB3.out.keep hb)
                  replace HBd := Lib.hid (HBd.out.keep hb)
                  replace HSxa := Lib.hid (HSxa.out.keep hb)
                  replace HSxb := Lib.hid (HSxb.out.keep hb)
                  replace HOx := Lib.hid (HOx.out.keep hb)
                  replace HSya := Lib.hid (HSya.out.keep hb)
                  replace HSyb := Lib.hid (HSyb.out.keep hb)
                  replace HOy := Lib.hid (HOy.out.keep hb)
                  replace HSua := Lib.hid (HSua.out.keep hb)
                  replace HSub := Lib.hid (HSub.out.keep hb)
                  replace HOu := Lib.hid (HOu.out.keep hb)
                  replace HSva := Lib.hid (HSva.out.keep hb)
                  replace HSvb := Lib.hid (HSvb.out.keep hb)
                  replace HOv := Lib.hid (HOv.out.keep hb)
                  replace HK := Lib.hid (HK.out.keep hb)
                  replace HB := bel_tr HB hb
                  clear hb
                  refine hK _ _ HK.out ?_
                  clear hK K
                  refine Sch.tree_q rfl rfl (fun K hK => ?_)
                  go_big_quiet_op
                  first | refine hK _ ?_ | refine ⟨_, fun _ _ => rfl, hK _ ?_⟩
                  clear hK K
                  refine Sch.tree_q rfl rfl (fun K hK => ?_)
                  go_big_quiet_op
                  first | refine hK _ ?_ | refine ⟨_, fun _ _ => rfl, hK _ ?_⟩
                  clear hK K
                  refine Sch.tree_n ?_
                  clear HK
                  have k0 := HB1.out.1
                  have k1 := HB1.out.2
                  have k2 := HB2.out.1
                  have k3 := HB2.out.2
                  have k4 := HB3.out.1
                  have k5 := HB3.out.2
                  have k6 := HOu.out.1
                  have k7 := HOu.out.2
                  have k8 := HOv.out.1
                  have k9 := HOv.out.2
                  go_wp2_with fail
                  refine (HU3.out au bu nu mu _ (SV.r HSua.out).1 (SV.r HSub.out).1 HZ.out HT.out (SV.r HSua.out).2.1 (SV.r HSub.out).2.1).mono ?_
                  rintro e w30 ⟨xw, yw, rfl, ho, hb⟩
                  obtain ⟨aw, nw, bw, mw, rfl, rfl⟩ := ho.shape
                  have HSwa := Lib.hid (SV.of_od ho.1)
                  have HSwb := Lib.hid (SV.of_od ho.2)
                  clear ho
                  simp only at HSwa HSwb
                  replace HX := Lib.hid (HX.out.keep hb)
                  replace HY := Lib.hid (HY.out.keep hb)
                  replace HP := Lib.hid (HP.out.keep hb)
                  replace HQ := Lib.hid (HQ.out.keep hb)
                  replace HZ := Lib.hid (HZ.out.keep hb)
                  replace HT := Lib.hid (HT.out.keep hb)
                  replace HB1 := Lib.hid (HB1.out.keep hb)
                  replace HB2 := Lib.hid (HB2.out.keep hb)
                  replace HB3 := Lib.hid (HB3.out.keep hb)
                  replace HBd := Lib.hid (HBd.out.keep hb)
                  replace HSxa := Lib.hid (HSxa.out.keep hb)
                  replace HSxb := Lib.hid (HSxb.out.keep hb)
                  replace HOx := Lib.hid (HOx.out.keep hb)
                  replace HSya := Lib.hid (HSya.out.keep hb)
                  replace HSyb := Lib.hid (HSyb.out.keep hb)
                  replace HOy := Lib.hid (HOy.out.keep hb)
                  replace HSua := Lib.hid (HSua.out.keep hb)
                  replace HSub := Lib.hid (HSub.out.keep hb)
                  replace HOu := Lib.hid (HOu.out.keep hb)
                  replace HSva := Lib.hid (HSva.out.keep hb)
                  replace HSvb := Lib.hid (HSvb.out.keep hb)
                  replace HOv := Lib.hid (HOv.out.keep hb)
                  replace HB := bel_tr HB hb
                  clear hb
                  have HOw := Lib.hid (two_new w30 (.slice aw a1.length nw) (.slice bw a2.length mw))
                  have hb := bel_box w30 (cbox (.slice aw a1.length nw) (.slice bw a2.length mw))
                  replace HX := Lib.hid (HX.out.keep hb)
                  replace HY := Lib.hid (HY.out.keep hb)
                  replace HP := Lib.hid (HP.out.keep hb)
                  replace HQ := Lib.hid (HQ.out.keep hb)
                  replace HZ := Lib.hid (HZ.out.keep hb)
                  replace HT := Lib.hid (HT.out.keep hb)
                  replace HB1 := Lib.hid (HB1.out.keep hb)
                  replace HB2 := Lib.hid (HB2.out.keep hb)
                  replace HB3 := Lib.hid (HB3.out.keep hb)
                  replace HBd := Lib.hid (HBd.out.keep hb)
                  replace HSxa := Lib.hid (HSxa.out.keep hb)
                  replace HSxb := Lib.hid (HSxb.out.keep hb)
                  replace HOx := Lib.hid (HOx.out.keep hb)
                  replace HSya := Lib.hid (HSya.out.keep hb)
                  replace HSyb := Lib.hid (HSyb.out.keep hb)
                  replace HOy := Lib.hid (HOy.out.keep hb)
                  replace HSua := Lib.hid (HSua.out.keep hb)
                  replace HSub := Lib.hid (HSub.out.keep hb)
                  replace HOu := Lib.hid (HOu.out.keep hb)
                  replace HSva := Lib.hid (HSva.out.keep hb)
                  replace HSvb := Lib.hid (HSvb.out.keep hb)
                  replace HOv := Lib.hid (HOv.out.keep hb)
                  replace HSwa := Lib.hid (HSwa.out.keep hb)
                  replace HSwb := Lib.hid (HSwb.out.keep hb)
                  replace HB := bel_tr HB hb
                  clear hb
                  clear k0 k1 k2 k3 k4 k5 k6 k7 k8 k9
                  have k0 := HB1.out.1
                  have k1 := HB1.out.2
                  have k2 := HB2.out.1
                  have k3 := HB2.out.2
                  have k4 := HB3.out.1
                  have k5 := HB3.out.2
                  have k8 := HOv.out.1
                  have k9 := HOv.out.2
                  have kw0 := HOw.out.1
                  have kw1 := HOw.out.2
                  go_wp2_with fail
                  clear kw0 kw1 k0 k1 k2 k3 k4 k5 k8 k9
                  generalize w30.alloc (cbox (.slice aw a1.length nw) (.slice bw a2.length mw)) = w31 at *
                  refine (HUa.out av bv nv mv _ _ _ HX.out HY.out (SV.r HSva.out).1 (SV.r HSvb.out).1 (SV.r HSva.out).2.1 (SV.r HSvb.out).2.1 HSwa.out HSwb.out).mono ?_
                  rintro e w32 ⟨rfl, hb⟩
                  replace HX := Lib.hid (HX.out.keep hb)
                  replace HY := Lib.hid (HY.out.keep hb)
                  replace HP := Lib.hid (HP.out.keep hb)
                  replace HQ := Lib.hid (HQ.out.keep hb)
                  replace HZ := Lib.hid (HZ.out.keep hb)
                  replace HT := Lib.hid (HT.out.keep hb)
                  replace HB1 := Lib.hid (HB1.out.keep hb)
                  replace HB2 := Lib.hid (HB2.out.keep hb)
                  replace HB3 := Lib.hid (HB3.out.keep hb)
                  replace HBd := Lib.hid (HBd.out.keep hb)
                  replace HSxa := Lib.hid (HSxa.out.keep hb)
                  replace HSxb := Lib.hid (HSxb.out.keep hb)
                  replace HOx := Lib.hid (HOx.out.keep hb)
                  replace HSya := Lib.hid (HSya.out.keep hb)
                  replace HSyb := Lib.hid (HSyb.out.keep hb)
                  replace HOy := Lib.hid (HOy.out.keep hb)
                  replace HSua := Lib.hid (HSua.out.keep hb)
                  replace HSub := Lib.hid (HSub.out.keep hb)
                  replace HOu := Lib.hid (HOu.out.keep hb)
                  replace HSva := Lib.hid (HSva.out.keep hb)
                  replace HSvb := Lib.hid (HSvb.out.keep hb)
                  replace HOv := Lib.hid (HOv.out.keep hb)
                  replace HSwa := Lib.hid (HSwa.out.keep hb)
                  replace HSwb := Lib.hid (HSwb.out.keep hb)
                  replace HOw := Lib.hid (HOw.out.keep hb)
                  replace HB := bel_tr HB hb
                  clear hb
                  go_wp2_with fail
                  refine (HKn.out _).mono ?_
                  rintro e w33 ⟨rfl, hb⟩
                  replace HX := Lib.hid (HX.out.keep hb)
                  replace HY := Lib.hid (HY.out.keep hb)
                  replace HP := Lib.hid (HP.out.keep hb)
                  replace HQ := Lib.hid (HQ.out.keep hb)
                  replace HZ := Lib.hid (HZ.out.keep hb)
                  replace HT := Lib.hid (HT.out.keep hb)
                  replace HB1 := Lib.hid (HB1.out.keep hb)
                  replace HB2 := Lib.hid (HB2.out.keep hb)
                  replace HB3 := Lib.hid (HB3.out.keep hb)
                  replace HBd := Lib.hid (HBd.out.keep hb)
                  replace HSxa := Lib.hid (HSxa.out.keep hb)
                  replace HSxb := Lib.hid (HSxb.out.keep hb)
                  replace HOx := Lib.hid (HOx.out.keep hb)
                  replace HSya := Lib.hid (HSya.out.keep hb)
                  replace HSyb := Lib.hid (HSyb.out.keep hb)
                  replace HOy := Lib.hid (HOy.out.keep hb)
                  replace HSua := Lib.hid (HSua.out.keep hb)
                  replace HSub := Lib.hid (HSub.out.keep hb)
                  replace HOu := Lib.hid (HOu.out.keep hb)
                  replace HSva := Lib.hid (HSva.out.keep hb)
                  replace HSvb := Lib.hid (HSvb.out.keep hb)
                  replace HOv := Lib.hid (HOv.out.keep hb)
                  replace HSwa := Lib.hid (HSwa.out.keep hb)
                  replace HSwb := Lib.hid (HSwb.out.keep hb)
                  replace HOw := Lib.hid (HOw.out.keep hb)
                  replace HB := bel_tr HB hb
                  clear hb
                  go_wp2_with fail
                  go_ret
                  exact ⟨rfl, HB.out⟩
                · have hwv : (some ha == some false) = false := by rw [hv]; rfl
                  refine Sch.tree_s _ rfl hwv rfl ?_
                  simp only [Act.put, List.setIfInBounds_toArray, List.set_cons_zero, List.set_cons_succ]
                  refine Sch.tree_s _ rfl hwv rfl ?_
                  simp only [Act.put, List.setIfInBounds_toArray, List.set_cons_zero, List.set_cons_succ]
                  refine Sch.tree_se _ rfl hwv rfl ?_
                  simp only [Act.put, List.setIfInBounds_toArray, List.set_cons_zero, List.set_cons_succ]
                  have e1 : hu = true := by rw [← Hhu.out, hv]; rfl
                  subst e1 hv
                  refine Sch.tree_q rfl rfl (fun K hK => ?_)
                  go_big_quiet_op
                  first | refine hK _ ?_ | refine ⟨_, fun _ _ => rfl, hK _ ?_⟩
                  clear hK K
                  refine Sch.tree_q rfl rfl (fun K hK => ?_)
                  go_big_quiet_op
                  first | refine hK _ ?_ | refine ⟨_, fun _ _ => rfl, hK _ ?_⟩
                  clear hK K
                  refine Sch.tree_q rfl rfl (fun K hK => ?_)
                  go_big_quiet_op
                  first | refine hK _ ?_ | refine ⟨_, fun _ _ => rfl, hK _ ?_⟩
                  clear hK K
                  refine Sch.tree_q rfl rfl (fun K hK => ?_)
                  go_big_quiet_op
                  first | refine hK _ ?_ | refine ⟨_, fun _ _ => rfl, hK _ ?_⟩
                  clear hK K
                  refine tree_load _ _ _ _ _ rfl rfl rfl rfl (by first | exact S5.a | exact S5.b | exact S5.e | exact S5.dt) rfl ?_
                  simp only [Act.put, List.setIfInBounds_toArray, List.set_cons_zero, List.set_cons_succ]
                  refine tree_load _ _ _ _ _ rfl rfl rfl rfl (by first | exact S5.a | exact S5.b | exact S5.e | exact S5.dt) rfl ?_
                  simp only [Act.put, List.setIfInBounds_toArray, List.set_cons_zero, List.set_cons_succ]
                  refine Sch.tree_e rfl rfl (fun K hK => ?_)
                  go_wp2_with fail
                  refine (HWt.out au bu nu mu _ HX.out HY.out (SV.r HSua.out).1 (SV.r HSub.out).1 (SV.r HSua.out).2.1).mono ?_
                  rintro e w28 ⟨rfl, hb⟩
                  replace HX := Lib.hid (HX.out.keep hb)
                  replace HY := Lib.hid (HY.out.keep hb)
                  replace HP := Lib.hid (HP.out.keep hb)
                  replace HQ := Lib.hid (HQ.out.keep hb)
                  replace HZ := Lib.hid (HZ.out.keep hb)
                  replace HT := Lib.hid (HT.out.keep hb)
                  replace HB1 := Lib.hid (HB1.out.keep hb)
                  replace HB2 := Lib.hid (HB2.out.keep hb)
                  replace HB3 := Lib.hid (HB3.out.keep hb)
                  replace HBd := Lib.hid (HBd.out.keep hb)
                  replace HSxa := Lib.hid (HSxa.out.keep hb)
                  replace HSxb := Lib.hid (HSxb.out.keep hb)
                  replace HOx := Lib.hid (HOx.out.keep hb)
                  replace HSya := Lib.hid (HSya.out.keep hb)
                  replace HSyb := Lib.hid (HSyb.out.keep hb)
                  replace HOy := Lib.hid (HOy.out.keep hb)
                  replace HSua := Lib.hid (HSua.out.keep hb)
                  replace HSub := Lib.hid (HSub.out.keep hb)
                  replace HOu := Lib.hid (HOu.out.keep hb)
                  replace HSva := Lib.hid (HSva.out.keep hb)
                  replace HSvb := Lib.hid (HSvb.out.keep hb)
                  replace HOv := Lib.hid (HOv.out.keep hb)
                  replace HK := Lib.hid (HK.out.keep hb)
                  replace HB := bel_tr HB hb
                  clear hb
                  refine hK _ _ HK.out ?_
                  clear hK K
                  refine Sch.tree_q rfl rfl (fun K hK => ?_)
                  go_big_quiet_op
                  first | refine hK _ ?_ | refine ⟨_, fun _ _ => rfl, hK _ ?_⟩
                  clear hK K
                  refine Sch.tree_q rfl rfl (fun K hK => ?_)
                  go_big_quiet_op
                  first | refine hK _ ?_ | refine ⟨_, fun _ _ => rfl, hK _ ?_⟩
                  clear hK K
                  refine Sch.tree_n ?_
                  clear HK
                  have k0 := HB1.out.1
                  have k1 := HB1.out.2
                  have k2 := HB2.out.1
                  have k3 := HB2.out.2
                  have k4 := HB3.out.1
                  have k5 := HB3.out.2
                  have k6 := HOu.out.1
                  have k7 := HOu.out.2
                  have k8 := HOv.out.1
                  have k9 := HOv.out.2
                  go_wp2_with fail
                  refine (HU3.out au bu nu mu _ (SV.r HSua.out).1 (SV.r HSub.out).1 HZ.out HT.out (SV.r HSua.out).2.1 (SV.r HSub.out).2.1).mono ?_
                  rintro e w29 ⟨xw, yw, rfl, ho, hb⟩
                  obtain ⟨aw, nw, bw, mw, rfl, rfl⟩ := ho.shape
                  have HSwa := Lib.hid (SV.of_od ho.1)
                  have HSwb := Lib.hid (SV.of_od ho.2)
                  clear ho
                  simp only at HSwa HSwb
                  replace HX := Lib.hid (HX.out.keep hb)
                  replace HY := Lib.hid (HY.out.keep hb)
                  replace HP := Lib.hid (HP.out.keep hb)
                  replace HQ := Lib.hid (HQ.out.keep hb)
                  replace HZ := Lib.hid (HZ.out.keep hb)
                  replace HT := Lib.hid (HT.out.keep hb)
                  replace HB1 := Lib.hid (HB1.out.keep hb)
                  replace HB2 := Lib.hid (HB2.out.keep hb)
                  replace HB3 := Lib.hid (HB3.out.keep hb)
                  replace HBd := Lib.hid (HBd.out.keep hb)
                  replace HSxa := Lib.hid (HSxa.out.keep hb)
                  replace HSxb := Lib.hid (HSxb.out.keep hb)
                  replace HOx := Lib.hid (HOx.out.keep hb)
                  replace HSya := Lib.hid (HSya.out.keep hb)
                  replace HSyb := Lib.hid (HSyb.out.keep hb)
                  replace HOy := Lib.hid (HOy.out.keep hb)
                  replace HSua := Lib.hid (HSua.out.keep hb)
                  replace HSub := Lib.hid (HSub.out.keep hb)
                  replace HOu := Lib.hid (HOu.out.keep hb)
                  replace HSva := Lib.hid (HSva.out.keep hb)
                  replace HSvb := Lib.hid (HSvb.out.keep hb)
                  replace HOv := Lib.hid (HOv.out.keep hb)
                  replace HB := bel_tr HB hb
                  clear hb
                  have HOw := Lib.hid (two_new w29 (.slice aw a1.length nw) (.slice bw a2.length mw))
                  have hb := bel_box w29 (cbox (.slice aw a1.length nw) (.slice bw a2.length mw))
                  replace HX := Lib.hid (HX.out.keep hb)
                  replace HY := Lib.hid (HY.out.keep hb)
                  replace HP := Lib.hid (HP.out.keep hb)
                  replace HQ := Lib.hid (HQ.out.keep hb)
                  replace HZ := Lib.hid (HZ.out.keep hb)
                  replace HT := Lib.hid (HT.out.keep hb)
                  replace HB1 := Lib.hid (HB1.out.keep hb)
                  replace HB2 := Lib.hid (HB2.out.keep hb)
                  replace HB3 := Lib.hid (HB3.out.keep hb)
                  replace HBd := Lib.hid (HBd.out.keep hb)
                  replace HSxa := Lib.hid (HSxa.out.keep hb)
                  replace HSxb := Lib.hid (HSxb.out.keep hb)
                  replace HOx := Lib.hid (HOx.out.keep hb)
                  replace HSya := Lib.hid (HSya.out.keep hb)
                  replace HSyb := Lib.hid (HSyb.out.keep hb)
                  replace HOy := Lib.hid (HOy.out.keep hb)
                  replace HSua := Lib.hid (HSua.out.keep hb)
                  replace HSub := Lib.hid (HSub.out.keep hb)
                  replace HOu := Lib.hid (HOu.out.keep hb)
                  replace HSva := Lib.hid (HSva.out.keep hb)
                  replace HSvb := Lib.hid (HSvb.out.keep hb)
                  replace HOv := Lib.hid (HOv.out.keep hb)
                  replace HSwa := Lib.hid (HSwa.out.keep hb)
                  replace HSwb := Lib.hid (HSwb.out.keep hb)
                  replace HB := bel_tr HB hb
                  clear hb
                  clear k0 k1 k2 k3 k4 k5 k6 k7 k8 k9
                  have k0 := HB1.out.1
                  have k1 := HB1.out.2
                  have k2 := HB2.out.1
                  have k3 := HB2.out.2
                  have k4 := HB3.out.1
                  have k5 := HB3.out.2
                  have k8 := HOv.out.1
                  have k9 := HOv.out.2
                  have kw0 := HOw.out.1
                  have kw1 := HOw.out.2
                  go_wp2_with fail
                  clear kw0 kw1 k0 k1 k2 k3 k4 k5 k8 k9
                  generalize w29.alloc (cbox (.slice aw a1.length nw) (.slice bw a2.length mw)) = w30 at *
                  refine (HUa.out av bv nv mv _ _ _ HX.out HY.out (SV.r HSva.out).1 (SV.r HSvb.out).1 (SV.r HSva.out).2.1 (SV.r HSvb.out).2.1 HSwa.out HSwb.out).mono ?_
                  rintro e w31 ⟨rfl, hb⟩
                  replace HX := Lib.hid (HX.out.keep hb)
                  replace HY := Lib.hid (HY.out.keep hb)
                  replace HP := Lib.hid (HP.out.keep hb)
                  replace HQ := Lib.hid (HQ.out.keep hb)
                  replace HZ := Lib.hid (HZ.out.keep hb)
                  replace HT := Lib.hid (HT.out.keep hb)
                  replace HB1 := Lib.hid (HB1.out.keep hb)
                  replace HB2 := Lib.hid (HB2.out.keep hb)
                  replace HB3 := Lib.hid (HB3.out.keep hb)
                  replace HBd := Lib.hid (HBd.out.keep hb)
                  replace HSxa := Lib.hid (HSxa.out.keep hb)
                  replace HSxb := Lib.hid (HSxb.out.keep hb)
                  replace HOx := Lib.hid (HOx.out.keep hb)
                  replace HSya := Lib.hid (HSya.out.keep hb)
                  replace HSyb := Lib.hid (HSyb.out.keep hb)
                  replace HOy := Lib.hid (HOy.out.keep hb)
                  replace HSua := Lib.hid (HSua.out.keep hb)
                  replace HSub := Lib.hid (HSub.out.keep hb)
                  replace HOu := Lib.hid (HOu.out.keep hb)
                  replace HSva := Lib.hid (HSva.out.keep hb)
                  replace HSvb := Lib.hid (HSvb.out.keep hb)
                  replace HOv := Lib.hid (HOv.out.keep hb)
                  replace HSwa := Lib.hid (HSwa.out.keep hb)
                  replace HSwb := Lib.hid (HSwb.out.keep hb)
                  replace HOw := Lib.hid (HOw.out.keep hb)
                  replace HB := bel_tr HB hb
                  clear hb
                  go_wp2_with fail
                  refine (HKn.out _).mono ?_
                  rintro e w32 ⟨rfl, hb⟩
                  replace HX := Lib.hid (HX.out.keep hb)
                  replace HY := Lib.hid (HY.out.keep hb)
                  replace HP := Lib.hid (HP.out.keep hb)
                  replace HQ := Lib.hid (HQ.out.keep hb)
                  replace HZ := Lib.hid (HZ.out.keep hb)
                  replace HT := Lib.hid (HT.out.keep hb)
                  replace HB1 := Lib.hid (HB1.out.keep hb)
                  replace HB2 := Lib.hid (HB2.out.keep hb)
                  replace HB3 := Lib.hid (HB3.out.keep hb)
                  replace HBd := Lib.hid (HBd.out.keep hb)
                  replace HSxa := Lib.hid (HSxa.out.keep hb)
                  replace HSxb := Lib.hid (HSxb.out.keep hb)
                  replace HOx := Lib.hid (HOx.out.keep hb)
                  replace HSya := Lib.hid (HSya.out.keep hb)
                  replace HSyb := Lib.hid (HSyb.out.keep hb)
                  replace HOy := Lib.hid (HOy.out.keep hb)
                  replace HSua := Lib.hid (HSua.out.keep hb)
                  replace HSub := Lib.hid (HSub.out.keep hb)
                  replace HOu := Lib.hid (HOu.out.keep hb)
                  replace HSva := Lib.hid (HSva.out.keep hb)
                  replace HSvb := Lib.hid (HSvb.out.keep hb)
                  replace HOv := Lib.hid (HOv.out.keep hb)
                  replace HSwa := Lib.hid (HSwa.out.keep hb)
                  replace HSwb := Lib.hid (HSwb.out.keep hb)
                  replace HOw := Lib.hid (HOw.out.keep hb)
                  replace HB := bel_tr HB hb
                  clear hb
                  go_wp2_with fail
                  go_ret
                  exact ⟨rfl, HB.out⟩
              · have e1 : tt = t2 := by rw [← Htt.out, hv]; rfl
                subst e1 hv
                have e1 : (tt == tt) = true := by simp
                refine Sch.tree_q rfl rfl (fun K hK => ?_)
                go_big_quiet_op
                first | refine hK _ ?_ | refine ⟨_, fun _ _ => rfl, hK _ ?_⟩
                clear hK K
                refine Sch.tree_q rfl rfl (fun K hK => ?_)
                go_big_quiet_op
                first | refine hK _ ?_ | refine ⟨_, fun _ _ => rfl, hK _ ?_⟩
                clear hK K
                refine Sch.tree_q rfl rfl (fun K hK => ?_)
                go_big_quiet_op
                first | refine hK _ ?_ | refine ⟨_, fun _ _ => rfl, hK _ ?_⟩
                clear hK K
                refine Sch.tree_q rfl rfl (fun K hK => ?_)
                go_big_quiet_op
                first | refine hK _ ?_ | refine ⟨_, fun _ _ => rfl, hK _ ?_⟩
                clear hK K
                refine Sch.tree_q rfl rfl (fun K hK => ?_)
                go_big_quiet_op
                first | refine hK _ ?_ | refine ⟨_, fun _ _ => rfl, hK _ ?_⟩
                clear hK K
                refine tree_load _ _ _ _ _ rfl rfl rfl rfl (by first | exact S4.a | exact S4.b | exact S4.c | exact S4.dd) rfl ?_
                simp only [Act.put, List.setIfInBounds_toArray, List.set_cons_zero, List.set_cons_succ]
                refine Sch.tree_e rfl rfl (fun K hK => ?_)
                go_wp2_with fail
                refine (HI.out ax bx nx mx _ (SV.r HSxa.out).1 (SV.r HSxb.out).1).mono ?_
                rintro e w16 ⟨rfl, hb⟩
                replace HX := Lib.hid (HX.out.keep hb)
                replace HY := Lib.hid (HY.out.keep hb)
                replace HP := Lib.hid (HP.out.keep hb)
                replace HQ := Lib.hid (HQ.out.keep hb)
                replace HZ := Lib.hid (HZ.out.keep hb)
                replace HT := Lib.hid (HT.out.keep hb)
                replace HB1 := Lib.hid (HB1.out.keep hb)
                replace HB2 := Lib.hid (HB2.out.keep hb)
                replace HB3 := Lib.hid (HB3.out.keep hb)
                replace HBd := Lib.hid (HBd.out.keep hb)
                replace HSxa := Lib.hid (HSxa.out.keep hb)
                replace HSxb := Lib.hid (HSxb.out.keep hb)
                replace HOx := Lib.hid (HOx.out.keep hb)
                replace HSya := Lib.hid (HSya.out.keep hb)
                replace HSyb := Lib.hid (HSyb.out.keep hb)
                replace HOy := Lib.hid (HOy.out.keep hb)
                replace HK := Lib.hid (HK.out.keep hb)
                replace HB := bel_tr HB hb
                clear hb
                refine hK _ _ HK.out ?_
                clear hK K
                refine Sch.tree_q rfl rfl (fun K hK => ?_)
                go_big_quiet_op
                first | refine hK _ ?_ | refine ⟨_, fun _ _ => rfl, hK _ ?_⟩
                clear hK K
                refine Sch.tree_q rfl rfl (fun K hK => ?_)
                go_big_quiet_op
                first | refine hK _ ?_ | refine ⟨_, fun _ _ => rfl, hK _ ?_⟩
                clear hK K
                refine Sch.tree_q rfl rfl (fun K hK => ?_)
                go_big_quiet_op
                first | refine hK _ ?_ | refine ⟨_, fun _ _ => rfl, hK _ ?_⟩
                clear hK K
                refine tree_load _ _ _ _ _ rfl rfl rfl rfl (by first | exact S4.a | exact S4.b | exact S4.c | exact S4.dd) rfl ?_
                simp only [Act.put, List.setIfInBounds_toArray, List.set_cons_zero, List.set_cons_succ]
                refine tree_load _ _ _ _ _ rfl rfl rfl rfl (by first | exact S4.a | exact S4.b | exact S4.c | exact S4.dd) rfl ?_
                simp only [Act.put, List.setIfInBounds_toArray, List.set_cons_zero, List.set_cons_succ]
                refine Sch.tree_e rfl rfl (fun K hK => ?_)
                go_wp2_with fail
                refine (HCt.out ax bx nx mx _ _ _ (SV.r HSxa.out).1 (SV.r HSxb.out).1 (SV.r HSxa.out).2.1 HSxa.out HSxb.out).mono ?_
                rintro e w17 ⟨rfl, hb⟩
                replace HX := Lib.hid (HX.out.keep hb)
                replace HY := Lib.hid (HY.out.keep hb)
                replace HP := Lib.hid (HP.out.keep hb)
                replace HQ := Lib.hid (HQ.out.keep hb)
                replace HZ := Lib.hid (HZ.out.keep hb)
                replace HT := Lib.hid (HT.out.keep hb)
                replace HB1 := Lib.hid (HB1.out.keep hb)
                replace HB2 := Lib.hid (HB2.out.keep hb)
                replace HB3 := Lib.hid (HB3.out.keep hb)
                replace HBd := Lib.hid (HBd.out.keep hb)
                replace HSxa := Lib.hid (HSxa.out.keep hb)
                replace HSxb := Lib.hid (HSxb.out.keep hb)
                replace HOx := Lib.hid (HOx.out.keep hb)
                replace HSya := Lib.hid (HSya.out.keep hb)
                replace HSyb := Lib.hid (HSyb.out.keep hb)
                replace HOy := Lib.hid (HOy.out.keep hb)
                replace HK := Lib.hid (HK.out.keep hb)
                replace HB := bel_tr HB hb
                clear hb
                refine hK _ _ HK.out ?_
                clear hK K
                refine Sch.tree_q rfl rfl (fun K hK => ?_)
                go_big_quiet_op
                first | refine hK _ ?_ | refine ⟨_, fun _ _ => rfl, hK _ ?_⟩
                clear hK K
                refine Sch.tree_q rfl rfl (fun K hK => ?_)
                go_big_quiet_op
                first | refine hK _ ?_ | refine ⟨_, fun _ _ => rfl, hK _ ?_⟩
                clear hK K
                refine Sch.tree_q rfl rfl (fun K hK => ?_)
                go_big_quiet_op
                first | refine hK _ ?_ | refine ⟨_, fun _ _ => rfl, hK _ ?_⟩
                clear hK K
                refine tree_load _ _ _ _ _ rfl rfl rfl rfl (by first | exact S4.a | exact S4.b | exact S4.c | exact S4.dd) rfl ?_
                simp only [Act.put, List.setIfInBounds_toArray, List.set_cons_zero, List.set_cons_succ]
                refine tree_load _ _ _ _ _ rfl rfl rfl rfl (by first | exact S4.a | exact S4.b | exact S4.c | exact S4.dd) rfl ?_
                simp only [Act.put, List.setIfInBounds_toArray, List.set_cons_zero, List.set_cons_succ]
                refine Sch.tree_e rfl rfl (fun K hK => ?_)
                go_wp2_with fail
                refine (HS1.out ax bx nx mx _ (SV.r HSxa.out).1 (SV.r HSxb.out).1).mono ?_
                rintro e w18 ⟨rfl, hb⟩
                replace HX := Lib.hid (HX.out.keep hb)
                replace HY := Lib.hid (HY.out.keep hb)
                replace HP := Lib.hid (HP.out.keep hb)
                replace HQ := Lib.hid (HQ.out.keep hb)
                replace HZ := Lib.hid (HZ.out.keep hb)
                replace HT := Lib.hid (HT.out.keep hb)
                replace HB1 := Lib.hid (HB1.out.keep hb)
                replace HB2 := Lib.hid (HB2.out.keep hb)
                replace HB3 := Lib.hid (HB3.out.keep hb)
                replace HBd := Lib.hid (HBd.out.keep hb)
                replace HSxa := Lib.hid (HSxa.out.keep hb)
                replace HSxb := Lib.hid (HSxb.out.keep hb)
                replace HOx := Lib.hid (HOx.out.keep hb)
                replace HSya := Lib.hid (HSya.out.keep hb)
                replace HSyb := Lib.hid (HSyb.out.keep hb)
                replace HOy := Lib.hid (HOy.out.keep hb)
                replace HK := Lib.hid (HK.out.keep hb)
                replace HB := bel_tr HB hb
                clear hb
                refine hK _ _ HK.out ?_
                clear hK K
                refine Sch.tree_e rfl rfl (fun K hK => ?_)
                go_wp2_with fail
                refine (HS2.out _ HX.out HY.out).mono ?_
                rintro e w19 ⟨rfl, hb⟩
                replace HX := Lib.hid (HX.out.keep hb)
                replace HY := Lib.hid (HY.out.keep hb)
                replace HP := Lib.hid (HP.out.keep hb)
                replace HQ := Lib.hid (HQ.out.keep hb)
                replace HZ := Lib.hid (HZ.out.keep hb)
                replace HT := Lib.hid (HT.out.keep hb)
                replace HB1 := Lib.hid (HB1.out.keep hb)
                replace HB2 := Lib.hid (HB2.out.keep hb)
                replace HB3 := Lib.hid (HB3.out.keep hb)
                replace HBd := Lib.hid (HBd.out.keep hb)
                replace HSxa := Lib.hid (HSxa.out.keep hb)
                replace HSxb := Lib.hid (HSxb.out.keep hb)
                replace HOx := Lib.hid (HOx.out.keep hb)
                replace HSya := Lib.hid (HSya.out.keep hb)
                replace HSyb := Lib.hid (HSyb.out.keep hb)
                replace HOy := Lib.hid (HOy.out.keep hb)
                replace HK := Lib.hid (HK.out.keep hb)
                replace HB := bel_tr HB hb
                clear hb
                refine hK _ _ HK.out ?_
                clear hK K
                refine Sch.tree_q rfl rfl (fun K hK => ?_)
                go_big_quiet_op
                first | refine hK _ ?_ | refine ⟨_, fun _ _ => rfl, hK _ ?_⟩
                clear hK K
                refine Sch.tree_q rfl rfl (fun K hK => ?_)
                go_big_quiet_op
                first | refine hK _ ?_ | refine ⟨_, fun _ _ => rfl, hK _ ?_⟩
                clear hK K
                refine Sch.tree_n ?_
                clear HK
                have k0 := HB1.out.1
                have k1 := HB1.out.2
                have k2 := HB2.out.1
                have k3 := HB2.out.2
                have k4 := HB3.out.1
                have k5 := HB3.out.2
                go_wp2_with fail
                refine (HU1.out _ HX.out HY.out HP.out HQ.out).mono ?_
                rintro e w20 ⟨xu, yu, rfl, ho, hb⟩
                obtain ⟨au, nu, bu, mu, rfl, rfl⟩ := ho.shape
                have HSua := Lib.hid (SV.of_od ho.1)
                have HSub := Lib.hid (SV.of_od ho.2)
                clear ho
                simp only at HSua HSub
                replace HX := Lib.hid (HX.out.keep hb)
                replace HY := Lib.hid (HY.out.keep hb)
                replace HP := Lib.hid (HP.out.keep hb)
                replace HQ := Lib.hid (HQ.out.keep hb)
                replace HZ := Lib.hid (HZ.out.keep hb)
                replace HT := Lib.hid (HT.out.keep hb)
                replace HB1 := Lib.hid (HB1.out.keep hb)
                replace HB2 := Lib.hid (HB2.out.keep hb)
                replace HB3 := Lib.hid (HB3.out.keep hb)
                replace HBd := Lib.hid (HBd.out.keep hb)
                replace HSxa := Lib.hid (HSxa.out.keep hb)
                replace HSxb := Lib.hid (HSxb.out.keep hb)
                replace HOx := Lib.hid (HOx.out.keep hb)
                replace HSya := Lib.hid (HSya.out.keep hb)
                replace HSyb := Lib.hid (HSyb.out.keep hb)
                replace HOy := Lib.hid (HOy.out.keep hb)
                replace HB := bel_tr HB hb
                clear hb
                have HOu := Lib.hid (two_new w20 (.slice au u1.length nu) (.slice bu u2.length mu))
                have hb := bel_box w20 (cbox (.slice au u1.length nu) (.slice bu u2.length mu))
                replace HX := Lib.hid (HX.out.keep hb)
                replace HY := Lib.hid (HY.out.keep hb)
                replace HP := Lib.hid (HP.out.keep hb)
                replace HQ := Lib.hid (HQ.out.keep hb)
                replace HZ := Lib.hid (HZ.out.keep hb)
                replace HT := Lib.hid (HT.out.keep hb)
                replace HB1 := Lib.hid (HB1.out.keep hb)
                replace HB2 := Lib.hid (HB2.out.keep hb)
                replace HB3 := Lib.hid (HB3.out.keep hb)
                replace HBd := Lib.hid (HBd.out.keep hb)
                replace HSxa := Lib.hid (HSxa.out.keep hb)
                replace HSxb := Lib.hid (HSxb.out.keep hb)
                replace HOx := Lib.hid (HOx.out.keep hb)
                replace HSya := Lib.hid (HSya.out.keep hb)
                replace HSyb := Lib.hid (HSyb.out.keep hb)
                replace HOy := Lib.hid (HOy.out.keep hb)
                replace HSua := Lib.hid (HSua.out.keep hb)
                replace HSub := Lib.hid (HSub.out.keep hb)
                replace HB := bel_tr HB hb
                clear hb
                clear k0 k1 k2 k3 k4 k5
                have k0 := HB1.out.1
                have k1 := HB1.out.2
                have k2 := HB2.out.1
                have k3 := HB2.out.2
                have k4 := HB3.out.1
                have k5 := HB3.out.2
                go_wp2_with fail
                generalize w20.alloc (cbox (.slice au u1.length nu) (.slice bu u2.length mu)) = w21 at *
                generalize w20.heap.size = gu at *
                refine (HU2.out _ HP.out HQ.out HZ.out HT.out).mono ?_
                rintro e w22 ⟨xv, yv, rfl, ho, hb⟩
                obtain ⟨av, nv, bv, mv, rfl, rfl⟩ := ho.shape
                have HSva := Lib.hid (SV.of_od ho.1)
                have HSvb := Lib.hid (SV.of_od ho.2)
                clear ho
                simp only at HSva HSvb
                replace HX := Lib.hid (HX.out.keep hb)
                replace HY := Lib.hid (HY.out.keep hb)
                replace HP := Lib.hid (HP.out.keep hb)
                replace HQ := Lib.hid (HQ.out.keep hb)
                replace HZ := Lib.hid (HZ.out.keep hb)
                replace HT := Lib.hid (HT.out.keep hb)
                replace HB1 := Lib.hid (HB1.out.keep hb)
                replace HB2 := Lib.hid (HB2.out.keep hb)
                replace HB3 := Lib.hid (HB3.out.keep hb)
                replace HBd := Lib.hid (HBd.out.keep hb)
                replace HSxa := Lib.hid (HSxa.out.keep hb)
                replace HSxb := Lib.hid (HSxb.out.keep hb)
                replace HOx := Lib.hid (HOx.out.keep hb)
                replace HSya := Lib.hid (HSya.out.keep hb)
                replace HSyb := Lib.hid (HSyb.out.keep hb)
                replace HOy := Lib.hid (HOy.out.keep hb)
                replace HSua := Lib.hid (HSua.out.keep hb)
                replace HSub := Lib.hid (HSub.out.keep hb)
                replace HOu := Lib.hid (HOu.out.keep hb)
                replace HB := bel_tr HB hb
                clear hb
                have HOv := Lib.hid (two_new w22 (.slice av v1.length nv) (.slice bv v2.length mv))
                have hb := bel_box w22 (cbox (.slice av v1.length nv) (.slice bv v2.length mv))
                replace HX := Lib.hid (HX.out.keep hb)
                replace HY := Lib.hid (HY.out.keep hb)
                replace HP := Lib.hid (HP.out.keep hb)
                replace HQ := Lib.hid (HQ.out.keep hb)
                replace HZ := Lib.hid (HZ.out.keep hb)
                replace HT := Lib.hid (HT.out.keep hb)
                replace HB1 := Lib.hid (HB1.out.keep hb)
                replace HB2 := Lib.hid (HB2.out.keep hb)
                replace HB3 := Lib.hid (HB3.out.keep hb)
                replace HBd := Lib.hid (HBd.out.keep hb)
                replace HSxa := Lib.hid (HSxa.out.keep hb)
                replace HSxb := Lib.hid (HSxb.out.keep hb)
                replace HOx := Lib.hid (HOx.out.keep hb)
                replace HSya := Lib.hid (HSya.out.keep hb)
                replace HSyb := Lib.hid (HSyb.out.keep hb)
                replace HOy := Lib.hid (HOy.out.keep hb)
                replace HSua := Lib.hid (HSua.out.keep hb)
                replace HSub := Lib.hid (HSub.out.keep hb)
                replace HOu := Lib.hid (HOu.out.keep hb)
                replace HSva := Lib.hid (HSva.out.keep hb)
                replace HSvb := Lib.hid (HSvb.out.keep hb)
                replace HB := bel_tr HB hb
                clear hb
                clear k0 k1 k2 k3 k4 k5
                go_wp2_with fail
                generalize w22.alloc (cbox (.slice av v1.length nv) (.slice bv v2.length mv)) = w23 at *
                generalize w22.heap.size = gv at *
                have HK : Hid ((S5 w.heap.size (w.heap.size + 1) gx gu (w.heap.size + 1 + 1 + 1) (.slice a xs.length n) (.slice b ys.length m) (.slice p us.length j) (.slice q vs.length k) (.slice ax s1.length nx) (.slice bx s2.length mx) (.slice au u1.length nu) (.slice bu u2.length mu) (d1, d2)) w23) := ⟨⟨HB1.out, HB2.out, HOx.out, HOu.out⟩, HBd.out⟩
                refine Sch.wp_region_tree (S5 w.heap.size (w.heap.size + 1) gx gu (w.heap.size + 1 + 1 + 1) (.slice a xs.length n) (.slice b ys.length m) (.slice p us.length j) (.slice q vs.length k) (.slice ax s1.length nx) (.slice bx s2.length mx) (.slice au u1.length nu) (.slice bu u2.length mu) (d1, d2)) (.take 0 (.take 1 (.take 2 (.take 3 (.take 4 (.take 5 (.take 6 (.take 7 (.take 8 (.take 9 (.one 10 (.take 11 (.take 12 (.take 13 (.take 14 (.take 15 (.take 17 (.take 18 (.one 16 (.one 19 (.take 20 (.take 21 (.take 22 (.one 23 (.take 24 (.take 25 (.take 26 (.take 27 (.take 28 (.take 29 (.one 30 (.take 31 (.take 32 .done))))))))))))))))))))))))))))))))) (by kernel_rfl) (by kernel_rfl) (HK.out.keep ((Below.refl _ _).drew)) ?_
                have hb : Below w23.heap.size w23 w23.drew := (Below.refl _ _).drew
                replace HX := Lib.hid (HX.out.keep hb)
                replace HY := Lib.hid (HY.out.keep hb)
                replace HP := Lib.hid (HP.out.keep hb)
                replace HQ := Lib.hid (HQ.out.keep hb)
                replace HZ := Lib.hid (HZ.out.keep hb)
                replace HT := Lib.hid (HT.out.keep hb)
                replace HB1 := Lib.hid (HB1.out.keep hb)
                replace HB2 := Lib.hid (HB2.out.keep hb)
                replace HB3 := Lib.hid (HB3.out.keep hb)
                replace HBd := Lib.hid (HBd.out.keep hb)
                replace HSxa := Lib.hid (HSxa.out.keep hb)
                replace HSxb := Lib.hid (HSxb.out.keep hb)
                replace HOx := Lib.hid (HOx.out.keep hb)
                replace HSya := Lib.hid (HSya.out.keep hb)
                replace HSyb := Lib.hid (HSyb.out.keep hb)
                replace HOy := Lib.hid (HOy.out.keep hb)
                replace HSua := Lib.hid (HSua.out.keep hb)
                replace HSub := Lib.hid (HSub.out.keep hb)
                replace HOu := Lib.hid (HOu.out.keep hb)
                replace HSva := Lib.hid (HSva.out.keep hb)
                replace HSvb := Lib.hid (HSvb.out.keep hb)
                replace HOv := Lib.hid (HOv.out.keep hb)
                replace HK := Lib.hid (HK.out.keep hb)
                replace HB := bel_tr HB hb
                clear hb
                generalize w23.drew = w24 at *
                refine Sch.tree_q rfl rfl (fun K hK => ?_)
                go_big_quiet_op
                first | refine hK _ ?_ | refine ⟨_, fun _ _ => rfl, hK _ ?_⟩
                clear hK K
                refine Sch.tree_q rfl rfl (fun K hK => ?_)
                go_big_quiet_op
                first | refine hK _ ?_ | refine ⟨_, fun _ _ => rfl, hK _ ?_⟩
                clear hK K
                refine Sch.tree_q rfl rfl (fun K hK => ?_)
                go_big_quiet_op
                first | refine hK _ ?_ | refine ⟨_, fun _ _ => rfl, hK _ ?_⟩
                clear hK K
                refine Sch.tree_q rfl rfl (fun K hK => ?_)
                go_big_quiet_op
                first | refine hK _ ?_ | refine ⟨_, fun _ _ => rfl, hK _ ?_⟩
                clear hK K
                refine Sch.tree_q rfl rfl (fun K hK => ?_)
                go_big_quiet_op
                first | refine hK _ ?_ | refine ⟨_, fun _ _ => rfl, hK _ ?_⟩
                clear hK K
                refine Sch.tree_q rfl rfl (fun K hK => ?_)
                go_big_quiet_op
                first | refine hK _ ?_ | refine ⟨_, fun _ _ => rfl, hK _ ?_⟩
                clear hK K
                refine Sch.tree_q rfl rfl (fun K hK => ?_)
                go_big_quiet_op
                first | refine hK _ ?_ | refine ⟨_, fun _ _ => rfl, hK _ ?_⟩
                clear hK K
                refine tree_load _ _ _ _ _ rfl rfl rfl rfl (by first | exact S5.a | exact S5.b | exact S5.e | exact S5.dt) rfl ?_
                simp only [Act.put, List.setIfInBounds_toArray, List.set_cons_zero, List.set_cons_succ]
                refine tree_load _ _ _ _ _ rfl rfl rfl rfl (by first | exact S5.a | exact S5.b | exact S5.e | exact S5.dt) rfl ?_
                simp only [Act.put, List.setIfInBounds_toArray, List.set_cons_zero, List.set_cons_succ]
                refine tree_load _ _ _ _ _ rfl rfl rfl rfl (by first | exact S5.a | exact S5.b | exact S5.e | exact S5.dt) rfl ?_
                simp only [Act.put, List.setIfInBounds_toArray, List.set_cons_zero, List.set_cons_succ]
                refine Sch.tree_e rfl rfl (fun K hK => ?_)
                go_wp2_with fail
                refine (HUt.out _ _ _ HP.out HQ.out HX.out HY.out HSua.out HSub.out).mono ?_
                rintro e w25 ⟨rfl, hb⟩
                replace HX := Lib.hid (HX.out.keep hb)
                replace HY := Lib.hid (HY.out.keep hb)
                replace HP := Lib.hid (HP.out.keep hb)
                replace HQ := Lib.hid (HQ.out.keep hb)
                replace HZ := Lib.hid (HZ.out.keep hb)
                replace HT := Lib.hid (HT.out.keep hb)
                replace HB1 := Lib.hid (HB1.out.keep hb)
                replace HB2 := Lib.hid (HB2.out.keep hb)
                replace HB3 := Lib.hid (HB3.out.keep hb)
                replace HBd := Lib.hid (HBd.out.keep hb)
                replace HSxa := Lib.hid (HSxa.out.keep hb)
                replace HSxb := Lib.hid (HSxb.out.keep hb)
                replace HOx := Lib.hid (HOx.out.keep hb)
                replace HSya := Lib.hid (HSya.out.keep hb)
                replace HSyb := Lib.hid (HSyb.out.keep hb)
                replace HOy := Lib.hid (HOy.out.keep hb)
                replace HSua := Lib.hid (HSua.out.keep hb)
                replace HSub := Lib.hid (HSub.out.keep hb)
                replace HOu := Lib.hid (HOu.out.keep hb)
                replace HSva := Lib.hid (HSva.out.keep hb)
                replace HSvb := Lib.hid (HSvb.out.keep hb)
                replace HOv := Lib.hid (HOv.out.keep hb)
                replace HK := Lib.hid (HK.out.keep hb)
                replace HB := bel_tr HB hb
                clear hb
                refine hK _ _ HK.out ?_
                clear hK K
                refine Sch.tree_q rfl rfl (fun K hK => ?_)
                go_big_quiet_op
                first | refine hK _ ?_ | refine ⟨_, fun _ _ => rfl, hK _ ?_⟩
                clear hK K
                refine Sch.tree_q rfl rfl (fun K hK => ?_)
                go_big_quiet_op
                first | refine hK _ ?_ | refine ⟨_, fun _ _ => rfl, hK _ ?_⟩
                clear hK K
                refine Sch.tree_q rfl rfl (fun K hK => ?_)
                go_big_quiet_op
                first | refine hK _ ?_ | refine ⟨_, fun _ _ => rfl, hK _ ?_⟩
                clear hK K
                refine tree_load _ _ _ _ _ rfl rfl rfl rfl (by first | exact S5.a | exact S5.b | exact S5.e | exact S5.dt) rfl ?_
                simp only [Act.put, List.setIfInBounds_toArray, List.set_cons_zero, List.set_cons_succ]
                refine tree_load _ _ _ _ _ rfl rfl rfl rfl (by first | exact S5.a | exact S5.b | exact S5.e | exact S5.dt) rfl ?_
                simp only [Act.put, List.setIfInBounds_toArray, List.set_cons_zero, List.set_cons_succ]
                refine tree_load _ _ _ _ _ rfl rfl rfl rfl (by first | exact S5.a | exact S5.b | exact S5.e | exact S5.dt) rfl ?_
                simp only [Act.put, List.setIfInBounds_toArray, List.set_cons_zero, List.set_cons_succ]
                refine tree_load _ _ _ _ _ rfl rfl rfl rfl (by first | exact S5.a | exact S5.b | exact S5.e | exact S5.dt) rfl ?_
                simp only [Act.put, List.setIfInBounds_toArray, List.set_cons_zero, List.set_cons_succ]
                refine Sch.tree_e rfl rfl (fun K hK => ?_)
                go_wp2_with fail
                refine (HH1.out au bu nu mu _ (SV.r HSua.out).1 (SV.r HSub.out).1).mono ?_
                rintro e w26 ⟨rfl, hb⟩
                replace HX := Lib.hid (HX.out.keep hb)
                replace HY := Lib.hid (HY.out.keep hb)
                replace HP := Lib.hid (HP.out.keep hb)
                replace HQ := Lib.hid (HQ.out.keep hb)
                replace HZ := Lib.hid (HZ.out.keep hb)
                replace HT := Lib.hid (HT.out.keep hb)
                replace HB1 := Lib.hid (HB1.out.keep hb)
                replace HB2 := Lib.hid (HB2.out.keep hb)
                replace HB3 := Lib.hid (HB3.out.keep hb)
                replace HBd := Lib.hid (HBd.out.keep hb)
                replace HSxa := Lib.hid (HSxa.out.keep hb)
                replace HSxb := Lib.hid (HSxb.out.keep hb)
                replace HOx := Lib.hid (HOx.out.keep hb)
                replace HSya := Lib.hid (HSya.out.keep hb)
                replace HSyb := Lib.hid (HSyb.out.keep hb)
                replace HOy := Lib.hid (HOy.out.keep hb)
                replace HSua := Lib.hid (HSua.out.keep hb)
                replace HSub := Lib.hid (HSub.out.keep hb)
                replace HOu := Lib.hid (HOu.out.keep hb)
                replace HSva := Lib.hid (HSva.out.keep hb)
                replace HSvb := Lib.hid (HSvb.out.keep hb)
                replace HOv := Lib.hid (HOv.out.keep hb)
                replace HK := Lib.hid (HK.out.keep hb)
                replace HB := bel_tr HB hb
                clear hb
                refine hK _ _ HK.out ?_
                clear hK K
                refine Sch.tree_e rfl rfl (fun K hK => ?_)
                go_wp2_with fail
                refine (HH2.out _ HX.out HY.out).mono ?_
                rintro e w27 ⟨rfl, hb⟩
                replace HX := Lib.hid (HX.out.keep hb)
                replace HY := Lib.hid (HY.out.keep hb)
                replace HP := Lib.hid (HP.out.keep hb)
                replace HQ := Lib.hid (HQ.out.keep hb)
                replace HZ := Lib.hid (HZ.out.keep hb)
                replace HT := Lib.hid (HT.out.keep hb)
                replace HB1 := Lib.hid (HB1.out.keep hb)
                replace HB2 := Lib.hid (HB2.out.keep hb)
                replace HB3 := Lib.hid (HB3.out.keep hb)
                replace HBd := Lib.hid (HBd.out.keep hb)
                replace HSxa := Lib.hid (HSxa.out.keep hb)
                replace HSxb := Lib.hid (HSxb.out.keep hb)
                replace HOx := Lib.hid (HOx.out.keep hb)
                replace HSya := Lib.hid (HSya.out.keep hb)
                replace HSyb := Lib.hid (HSyb.out.keep hb)
                replace HOy := Lib.hid (HOy.out.keep hb)
                replace HSua := Lib.hid (HSua.out.keep hb)
                replace HSub := Lib.hid (HSub.out.keep hb)
                replace HOu := Lib.hid (HOu.out.keep hb)
                replace HSva := Lib.hid (HSva.out.keep hb)
                replace HSvb := Lib.hid (HSvb.out.keep hb)
                replace HOv := Lib.hid (HOv.out.keep hb)
                replace HK := Lib.hid (HK.out.keep hb)
                replace HB := bel_tr HB hb
                clear hb
                refine hK _ _ HK.out ?_
                clear hK K
                refine Sch.tree_q rfl rfl (fun K hK => ?_)
                go_big_quiet_op
                first | refine hK _ ?_ | refine ⟨_, fun _ _ => rfl, hK _ ?_⟩
                clear hK K
                obtain hv | hv : ha = false ∨ ha = true := by cases ha <;> simp
                · have e1 : hu = hbb := by rw [← Hhu.out, hv]; rfl
                  subst e1 hv
                  have e1 : (hu == hu) = true := by simp
                  refine tree_load _ _ _ _ _ rfl rfl rfl rfl (by first | exact S5.a | exact S5.b | exact S5.e | exact S5.dt) rfl ?_
                  simp only [Act.put, List.setIfInBounds_toArray, List.set_cons_zero, List.set_cons_succ]
                  refine tree_load _ _ _ _ _ rfl rfl rfl rfl (by first | exact S5.a | exact S5.b | exact S5.e | exact S5.dt) rfl ?_
                  simp only [Act.put, List.setIfInBounds_toArray, List.set_cons_zero, List.set_cons_succ]
                  refine Sch.tree_e rfl rfl (fun K hK => ?_)
                  go_wp2_with fail
                  refine (HH3.out _ HP.out HQ.out).mono ?_
                  rintro e w28 ⟨rfl, hb⟩
                  replace HX := Lib.hid (HX.out.keep hb)
                  replace HY := Lib.hid (HY.out.keep hb)
                  replace HP := Lib.hid (HP.out.keep hb)
                  replace HQ := Lib.hid (HQ.out.keep hb)
                  replace HZ := Lib.hid (HZ.out.keep hb)
                  replace HT := Lib.hid (HT.out.keep hb)
                  replace HB1 := Lib.hid (HB1.out.keep hb)
                  replace HB2 := Lib.hid (HB2.out.keep hb)
                  replace HB3 := Lib.hid (HB3.out.keep hb)
                  replace HBd := Lib.hid (HBd.out.keep hb)
                  replace HSxa := Lib.hid (HSxa.out.keep hb)
                  replace HSxb := Lib.hid (HSxb.out.keep hb)
                  replace HOx := Lib.hid (HOx.out.keep hb)
                  replace HSya := Lib.hid (HSya.out.keep hb)
                  replace HSyb := Lib.hid (HSyb.out.keep hb)
                  replace HOy := Lib.hid (HOy.out.keep hb)
                  replace HSua := Lib.hid (HSua.out.keep hb)
                  replace HSub := Lib.hid (HSub.out.keep hb)
                  replace HOu := Lib.hid (HOu.out.keep hb)
                  replace HSva := Lib.hid (HSva.out.keep hb)
                  replace HSvb := Lib.hid (HSvb.out.keep hb)
                  replace HOv := Lib.hid (HOv.out.keep hb)
                  replace HK := Lib.hid (HK.out.keep hb)
                  replace HB := bel_tr HB hb
                  clear hb
                  refine hK _ _ HK.out ?_
                  clear hK K
                  refine Sch.tree_q rfl rfl (fun K hK => ?_)
                  go_big_quiet_op
                  first | refine hK _ ?_ | refine ⟨_, fun _ _ => rfl, hK _ ?_⟩
                  clear hK K
                  refine Sch.tree_q rfl rfl (fun K hK => ?_)
                  go_big_quiet_op
                  first | refine hK _ ?_ | refine ⟨_, fun _ _ => rfl, hK _ ?_⟩
                  clear hK K
                  refine Sch.tree_q rfl rfl (fun K hK => ?_)
                  go_big_quiet_op
                  first | refine hK _ ?_ | refine ⟨_, fun _ _ => rfl, hK _ ?_⟩
                  clear hK K
                  refine Sch.tree_q rfl rfl (fun K hK => ?_)
                  go_big_quiet_op
                  first | refine hK _ ?_ | refine ⟨_, fun _ _ => rfl, hK _ ?_⟩
                  clear hK K
                  refine tree_load _ _ _ _ _ rfl rfl rfl rfl (by first | exact S5.a | exact S5.b | exact S5.e | exact S5.dt) rfl ?_
                  simp only [Act.put, List.setIfInBounds_toArray, List.set_cons_zero, List.set_cons_succ]
                  refine tree_load _ _ _ _ _ rfl rfl rfl rfl (by first | exact S5.a | exact S5.b | exact S5.e | exact S5.dt) rfl ?_
                  simp only [Act.put, List.setIfInBounds_toArray, List.set_cons_zero, List.set_cons_succ]
                  refine Sch.tree_e rfl rfl (fun K hK => ?_)
                  go_wp2_with fail
                  refine (HWt.out au bu nu mu _ HX.out HY.out (SV.r HSua.out).1 (SV.r HSub.out).1 (SV.r HSua.out).2.1).mono ?_
                  rintro e w29 ⟨rfl, hb⟩
                  replace HX := Lib.hid (HX.out.keep hb)
                  replace HY := Lib.hid (HY.out.keep hb)
                  replace HP := Lib.hid (HP.out.keep hb)
                  replace HQ := Lib.hid (HQ.out.keep hb)
                  replace HZ := Lib.hid (HZ.out.keep hb)
                  replace HT := Lib.hid (HT.out.keep hb)
                  replace HB1 := Lib.hid (HB1.out.keep hb)
                  replace HB2 := Lib.hid (HB2.out.keep hb)
                  replace HB3 := Lib.hid (HB3.out.keep hb)
                  replace HBd := Lib.hid (HBd.out.keep hb)
                  replace HSxa := Lib.hid (HSxa.out.keep hb)
                  replace HSxb := Lib.hid (HSxb.out.keep hb)
                  replace HOx := Lib.hid (HOx.out.keep hb)
                  replace HSya := Lib.hid (HSya.out.keep hb)
                  replace HSyb := Lib.hid (HSyb.out.keep hb)
                  replace HOy := Lib.hid (HOy.out.keep hb)
                  replace HSua := Lib.hid (HSua.out.keep hb)
                  replace HSub := Lib.hid (HSub.out.keep hb)
                  replace HOu := Lib.hid (HOu.out.keep hb)
                  replace HSva := Lib.hid (HSva.out.keep hb)
                  replace HSvb := Lib.hid (HSvb.out.keep hb)
                  replace HOv := Lib.hid (HOv.out.keep hb)
                  replace HK := Lib.hid (HK.out.keep hb)
                  replace HB := bel_tr HB hb
                  clear hb
                  refine hK _ _ HK.out ?_
                  clear hK K
                  refine Sch.tree_q rfl rfl (fun K hK => ?_)
                  go_big_quiet_op
                  first | refine hK _ ?_ | refine ⟨_, fun _ _ => rfl, hK _ ?_⟩
                  clear hK K
                  refine Sch.tree_q rfl rfl (fun K hK => ?_)
                  go_big_quiet_op
                  first | refine hK _ ?_ | refine ⟨_, fun _ _ => rfl, hK _ ?_⟩
                  clear hK K
                  refine Sch.tree_n ?_
                  clear HK
                  have k0 := HB1.out.1
                  have k1 := HB1.out.2
                  have k2 := HB2.out.1
                  have k3 := HB2.out.2
                  have k4 := HB3.out.1
                  have k5 := HB3.out.2
                  have k6 := HOu.out.1
                  have k7 := HOu.out.2
                  have k8 := HOv.out.1
                  have k9 := HOv.out.2
                  go_wp2_with fail
                  refine (HU3.out au bu nu mu _ (SV.r HSua.out).1 (SV.r HSub.out).1 HZ.out HT.out (SV.r HSua.out).2.1 (SV.r HSub.out).2.1).mono ?_
                  rintro e w30 ⟨xw, yw, rfl, ho, hb⟩
                  obtain ⟨aw, nw, bw, mw, rfl, rfl⟩ := ho.shape
                  have HSwa := Lib.hid (SV.of_od ho.1)
                  have HSwb := Lib.hid (SV.of_od ho.2)
                  clear ho
                  simp only at HSwa HSwb
                  replace HX := Lib.hid (HX.out.keep hb)
                  replace HY := Lib.hid (HY.out.keep hb)
                  replace HP := Lib.hid (HP.out.keep hb)
                  replace HQ := Lib.hid (HQ.out.keep hb)
                  replace HZ := Lib.hid (HZ.out.keep hb)
                  replace HT := Lib.hid (HT.out.keep hb)
                  replace HB1 := Lib.hid (HB1.out.keep hb)
                  replace HB2 := Lib.hid (HB2.out.keep hb)
                  replace HB3 := Lib.hid (HB3.out.keep hb)
                  replace HBd := Lib.hid (HBd.out.keep hb)
                  replace HSxa := Lib.hid (HSxa.out.keep hb)
                  replace HSxb := Lib.hid (HSxb.out.keep hb)
                  replace HOx := Lib.hid (HOx.out.keep hb)
                  replace HSya := Lib.hid (HSya.out.keep hb)
                  replace HSyb := Lib.hid (HSyb.out.keep hb)
                  replace HOy := Lib.hid (HOy.out.keep hb)
                  replace HSua := Lib.hid (HSua.out.keep hb)
                  replace HSub := Lib.hid (HSub.out.keep hb)
                  replace HOu := Lib.hid (HOu.out.keep hb)
                  replace HSva := Lib.hid (HSva.out.keep hb)
                  replace HSvb := Lib.hid (HSvb.out.keep hb)
                  replace HOv := Lib.hid (HOv.out.keep hb)
                  replace HB := bel_tr HB hb
                  clear hb
                  have HOw := Lib.hid (two_new w30 (.slice aw a1.length nw) (.slice bw a2.length mw))
                  have hb := bel_box w30 (cbox (.slice aw a1.length nw) (.slice bw a2.length mw))
                  replace HX := Lib.hid (HX.out.keep hb)
                  replace HY := Lib.hid (HY.out.keep hb)
                  replace HP := Lib.hid (HP.out.keep hb)
                  replace HQ := Lib.hid (HQ.out.keep hb)
                  replace HZ := Lib.hid (HZ.out.keep hb)
                  replace HT := Lib.hid (HT.out.keep hb)
                  replace HB1 := Lib.hid (HB1.out.keep hb)
                  replace HB2 := Lib.hid (HB2.out.keep hb)
                  replace HB3 := Lib.hid (HB3.out.keep hb)
                  replace HBd := Lib.hid (HBd.out.keep hb)
                  replace HSxa := Lib.hid (HSxa.out.keep hb)
                  replace HSxb := Lib.hid (HSxb.out.keep hb)
                  replace HOx := Lib.hid (HOx.out.keep hb)
                  replace HSya := Lib.hid (HSya.out.keep hb)
                  replace HSyb := Lib.hid (HSyb.out.keep hb)
                  replace HOy := Lib.hid (HOy.out.keep hb)
                  replace HSua := Lib.hid (HSua.out.keep hb)
                  replace HSub := Lib.hid (HSub.out.keep hb)
                  replace HOu := Lib.hid (HOu.out.keep hb)
                  replace HSva := Lib.hid (HSva.out.keep hb)
                  replace HSvb := Lib.hid (HSvb.out.keep hb)
                  replace HOv := Lib.hid (HOv.out.keep hb)
                  replace HSwa := Lib.hid (HSwa.out.keep hb)
                  replace HSwb := Lib.hid (HSwb.out.keep hb)
                  replace HB := bel_tr HB hb
                  clear hb
                  clear k0 k1 k2 k3 k4 k5 k6 k7 k8 k9
                  have k0 := HB1.out.1
                  have k1 := HB1.out.2
                  have k2 := HB2.out.1
                  have k3 := HB2.out.2
                  have k4 := HB3.out.1
                  have k5 := HB3.out.2
                  have k8 := HOv.out.1
                  have k9 := HOv.out.2
                  have kw0 := HOw.out.1
                  have kw1 := HOw.out.2
                  go_wp2_with fail
                  clear kw0 kw1 k0 k1 k2 k3 k4 k5 k8 k9
                  generalize w30.alloc (cbox (.slice aw a1.length nw) (.slice bw a2.length mw)) = w31 at *
                  refine (HUa.out av bv nv mv _ _ _ HX.out HY.out (SV.r HSva.out).1 (SV.r HSvb.out).1 (SV.r HSva.out).2.1 (SV.r HSvb.out).2.1 HSwa.out HSwb.out).mono ?_
                  rintro e w32 ⟨rfl, hb⟩
                  replace HX := Lib.hid (HX.out.keep hb)
                  replace HY := Lib.hid (HY.out.keep hb)
                  replace HP := Lib.hid (HP.out.keep hb)
                  replace HQ := Lib.hid (HQ.out.keep hb)
                  replace HZ := Lib.hid (HZ.out.keep hb)
                  replace HT := Lib.hid (HT.out.keep hb)
                  replace HB1 := Lib.hid (HB1.out.keep hb)
                  replace HB2 := Lib.hid (HB2.out.keep hb)
                  replace HB3 := Lib.hid (HB3.out.keep hb)
                  replace HBd := Lib.hid (HBd.out.keep hb)
                  replace HSxa := Lib.hid (HSxa.out.keep hb)
                  replace HSxb := Lib.hid (HSxb.out.keep hb)
                  replace HOx := Lib.hid (HOx.out.keep hb)
                  replace HSya := Lib.hid (HSya.out.keep hb)
                  replace HSyb := Lib.hid (HSyb.out.keep hb)
                  replace HOy := Lib.hid (HOy.out.keep hb)
                  replace HSua := Lib.hid (HSua.out.keep hb)
                  replace HSub := Lib.hid (HSub.out.keep hb)
                  replace HOu := Lib.hid (HOu.out.keep hb)
                  replace HSva := Lib.hid (HSva.out.keep hb)
                  replace HSvb := Lib.hid (HSvb.out.keep hb)
                  replace HOv := Lib.hid (HOv.out.keep hb)
                  replace HSwa := Lib.hid (HSwa.out.keep hb)
                  replace HSwb := Lib.hid (HSwb.out.keep hb)
                  replace HOw := Lib.hid (HOw.out.keep hb)
                  replace HB := bel_tr HB hb
                  clear hb
                  go_wp2_with fail
                  refine (HKn.out _).mono ?_
                  rintro e w33 ⟨rfl, hb⟩
                  replace HX := Lib.hid (HX.out.keep hb)
                  replace HY := Lib.hid (HY.out.keep hb)
                  replace HP := Lib.hid (HP.out.keep hb)
                  replace HQ := Lib.hid (HQ.out.keep hb)
                  replace HZ := Lib.hid (HZ.out.keep hb)
                  replace HT := Lib.hid (HT.out.keep hb)
                  replace HB1 := Lib.hid (HB1.out.keep hb)
                  replace HB2 := Lib.hid (HB2.out.keep hb)
                  replace HB3 := Lib.hid (HB3.out.keep hb)
                  replace HBd := Lib.hid (HBd.out.keep hb)
                  replace HSxa := Lib.hid (HSxa.out.keep hb)
                  replace HSxb := Lib.hid (HSxb.out.keep hb)
                  replace HOx := Lib.hid (HOx.out.keep hb)
                  replace HSya := Lib.hid (HSya.out.keep hb)
                  replace HSyb := Lib.hid (HSyb.out.keep hb)
                  replace HOy := Lib.hid (HOy.out.keep hb)
                  replace HSua := Lib.hid (HSua.out.keep hb)
                  replace HSub := Lib.hid (HSub.out.keep hb)
                  replace HOu := Lib.hid (HOu.out.keep hb)
                  replace HSva := Lib.hid (HSva.out.keep hb)
                  replace HSvb := Lib.hid (HSvb.out.keep hb)
                  replace HOv := Lib.hid (HOv.out.keep hb)
                  replace HSwa := Lib.hid (HSwa.out.keep hb)
                  replace HSwb := Lib.hid (HSwb.out.keep hb)
                  replace HOw := Lib.hid (HOw.out.keep hb)
                  replace HB := bel_tr HB hb
                  clear hb
                  go_wp2_with fail
                  go_ret
                  exact ⟨rfl, HB.out⟩
                · have hwv : (some ha == some false) = false := by rw [hv]; rfl
                  refine Sch.tree_s _ rfl hwv rfl ?_
                  simp only [Act.put, List.setIfInBounds_toArray, List.set_cons_zero, List.set_cons_succ]
                  refine Sch.tree_s _ rfl hwv rfl ?_
                  simp only [Act.put, List.setIfInBounds_toArray, List.set_cons_zero, List.set_cons_succ]
                  refine Sch.tree_se _ rfl hwv rfl ?_
                  simp only [Act.put, List.setIfInBounds_toArray, List.set_cons_zero, List.set_cons_succ]
                  have e1 : hu = true := by rw [← Hhu.out, hv]; rfl
                  subst e1 hv
                  refine Sch.tree_q rfl rfl (fun K hK => ?_)
                  go_big_quiet_op
                  first | refine hK _ ?_ | refine ⟨_, fun _ _ => rfl, hK _ ?_⟩
                  clear hK K
                  refine Sch.tree_q rfl rfl (fun K hK => ?_)
                  go_big_quiet_op
                  first | refine hK _ ?_ | refine ⟨_, fun _ _ => rfl, hK _ ?_⟩
                  clear hK K
                  refine Sch.tree_q rfl rfl (fun K hK => ?_)
                  go_big_quiet_op
                  first | refine hK _ ?_ | refine ⟨_, fun _ _ => rfl, hK _ ?_⟩
                  clear hK K
                  refine Sch.tree_q rfl rfl (fun K hK => ?_)
                  go_big_quiet_op
                  first | refine hK _ ?_ | refine ⟨_, fun _ _ => rfl, hK _ ?_⟩
                  clear hK K
                  refine tree_load _ _ _ _ _ rfl rfl rfl rfl (by first | exact S5.a | exact S5.b | exact S5.e | exact S5.dt) rfl ?_
                  simp only [Act.put, List.setIfInBounds_toArray, List.set_cons_zero, List.set_cons_succ]
                  refine tree_load _ _ _ _ _ rfl rfl rfl rfl (by first | exact S5.a | exact S5.b | exact S5.e | exact S5.dt) rfl ?_
                  simp only [Act.put, List.setIfInBounds_toArray, List.set_cons_zero, List.set_cons_succ]
                  refine Sch.tree_e rfl rfl (fun K hK => ?_)
                  go_wp2_with fail
                  refine (HWt.out au bu nu mu _ HX.out HY.out (SV.r HSua.out).1 (SV.r HSub.out).1 (SV.r HSua.out).2.1).mono ?_
                  rintro e w28 ⟨rfl, hb⟩
                  replace HX := Lib.hid (HX.out.keep hb)
                  replace HY := Lib.hid (HY.out.keep hb)
                  replace HP := Lib.hid (HP.out.keep hb)
                  replace HQ := Lib.hid (HQ.out.keep hb)
                  replace HZ := Lib.hid (HZ.out.keep hb)
                  replace HT := Lib.hid (HT.out.keep hb)
                  replace HB1 := Lib.hid (HB1.out.keep hb)
                  replace HB2 := Lib.hid (HB2.out.keep hb)
                  replace HB3 := Lib.hid (HB3.out.keep hb)
                  replace HBd := Lib.hid (HBd.out.keep hb)
                  replace HSxa := Lib.hid (HSxa.out.keep hb)
                  replace HSxb := Lib.hid (HSxb.out.keep hb)
                  replace HOx := Lib.hid (HOx.out.keep hb)
                  replace HSya := Lib.hid (HSya.out.keep hb)
                  replace HSyb := Lib.hid (HSyb.out.keep hb)
                  replace HOy := Lib.hid (HOy.out.keep hb)
                  replace HSua := Lib.hid (HSua.out.keep hb)
                  replace HSub := Lib.hid (HSub.out.keep hb)
                  replace HOu := Lib.hid (HOu.out.keep hb)
                  replace HSva := Lib.hid (HSva.out.keep hb)
                  replace HSvb := Lib.hid (HSvb.out.keep hb)
                  replace HOv := Lib.hid (HOv.out.keep hb)
                  replace HK := Lib.hid (HK.out.keep hb)
                  replace HB := bel_tr HB hb
                  clear hb
                  refine hK _ _ HK.out ?_
                  clear hK K
                  refine Sch.tree_q rfl rfl (fun K hK => ?_)
                  go_big_quiet_op
                  first | refine hK _ ?_ | refine ⟨_, fun _ _ => rfl, hK _ ?_⟩
                  clear hK K
                  refine Sch.tree_q rfl rfl (fun K hK => ?_)
                  go_big_quiet_op
                  first | refine hK _ ?_ | refine ⟨_, fun _ _ => rfl, hK _ ?_⟩
                  clear hK K
                  refine Sch.tree_n ?_
                  clear HK
                  have k0 := HB1.out.1
                  have k1 := HB1.out.2
                  have k2 := HB2.out.1
                  have k3 := HB2.out.2
                  have k4 := HB3.out.1
                  have k5 := HB3.out.2
                  have k6 := HOu.out.1
                  have k7 := HOu.out.2
                  have k8 := HOv.out.1
                  have k9 := HOv.out.2
                  go_wp2_with fail
                  refine (HU3.out au bu nu mu _ (SV.r HSua.out).1 (SV.r HSub.out).1 HZ.out HT.out (SV.r HSua.out).2.1 (SV.r HSub.out).2.1).mono ?_
                  rintro e w29 ⟨xw, yw, rfl, ho, hb⟩
                  obtain ⟨aw, nw, bw, mw, rfl, rfl⟩ := ho.shape
                  have HSwa := Lib.hid (SV.of_od ho.1)
                  have HSwb := Lib.hid (SV.of_od ho.2)
                  clear ho
                  simp only at HSwa HSwb
                  replace HX := Lib.hid (HX.out.keep hb)
                  replace HY := Lib.hid (HY.out.keep hb)
                  replace HP := Lib.hid (HP.out.keep hb)
                  replace HQ := Lib.hid (HQ.out.keep hb)
                  replace HZ := Lib.hid (HZ.out.keep hb)
                  replace HT := Lib.hid (HT.out.keep hb)
                  replace HB1 := Lib.hid (HB1.out.keep hb)
                  replace HB2 := Lib.hid (HB2.out.keep hb)
                  replace HB3 := Lib.hid (HB3.out.keep hb)
                  replace HBd := Lib.hid (HBd.out.keep hb)
                  replace HSxa := Lib.hid (HSxa.out.keep hb)
                  replace HSxb := Lib.hid (HSxb.out.keep hb)
                  replace HOx := Lib.hid (HOx.out.keep hb)
                  replace HSya := Lib.hid (HSya.out.keep hb)
                  replace HSyb := Lib.hid (HSyb.out.keep hb)
                  replace HOy := Lib.hid (HOy.out.keep hb)
                  replace HSua := Lib.hid (HSua.out.keep hb)
                  replace HSub := Lib.hid (HSub.out.keep hb)
                  replace HOu := Lib.hid (HOu.out.keep hb)
                  replace HSva := Lib.hid (HSva.out.keep hb)
                  replace HSvb := Lib.hid (HSvb.out.keep hb)
                  replace HOv := Lib.hid (HOv.out.keep hb)
                  replace HB := bel_tr HB hb
                  clear hb
                  have HOw := Lib.hid (two_new w29 (.slice aw a1.length nw) (.slice bw a2.length mw))
                  have hb := bel_box w29 (cbox (.slice aw a1.length nw) (.slice bw a2.length mw))
                  replace HX := Lib.hid (HX.out.keep hb)
                  replace HY := Lib.hid (HY.out.keep hb)
                  replace HP := Lib.hid (HP.out.keep hb)
                  replace HQ := Lib.hid (HQ.out.keep hb)
                  replace HZ := Lib.hid (HZ.out.keep hb)
                  replace HT := Lib.hid (HT.out.keep hb)
                  replace HB1 := Lib.hid (HB1.out.keep hb)
                  replace HB2 := Lib.hid (HB2.out.keep hb)
                  replace HB3 := Lib.hid (HB3.out.keep hb)
                  replace HBd := Lib.hid (HBd.out.keep hb)
                  replace HSxa := Lib.hid (HSxa.out.keep hb)
                  replace HSxb := Lib.hid (HSxb.out.keep hb)
                  replace HOx := Lib.hid (HOx.out.keep hb)
                  replace HSya := Lib.hid (HSya.out.keep hb)
                  replace HSyb := Lib.hid (HSyb.out.keep hb)
                  replace HOy := Lib.hid (HOy.out.keep hb)
                  replace HSua := Lib.hid (HSua.out.keep hb)
                  replace HSub := Lib.hid (HSub.out.keep hb)
                  replace HOu := Lib.hid (HOu.out.keep hb)
                  replace HSva := Lib.hid (HSva.out.keep hb)
                  replace HSvb := Lib.hid (HSvb.out.keep hb)
                  replace HOv := Lib.hid (HOv.out.keep hb)
                  replace HSwa := Lib.hid (HSwa.out.keep hb)
                  replace HSwb := Lib.hid (HSwb.out.keep hb)
                  replace HB := bel_tr HB hb
                  clear hb
                  clear k0 k1 k2 k3 k4 k5 k6 k7 k8 k9
                  have k0 := HB1.out.1
                  have k1 := HB1.out.2
                  have k2 := HB2.out.1
                  have k3 := HB2.out.2
                  have k4 := HB3.out.1
                  have k5 := HB3.out.2
                  have k8 := HOv.out.1
                  have k9 := HOv.out.2
                  have kw0 := HOw.out.1
                  have kw1 := HOw.out.2
                  go_wp2_with fail
                  clear kw0 kw1 k0 k1 k2 k3 k4 k5 k8 k9
                  generalize w29.alloc (cbox (.slice aw a1.length nw) (.slice bw a2.length mw)) = w30 at *
                  refine (HUa.out av bv nv mv _ _ _ HX.out HY.out (SV.r HSva.out).1 (SV.r HSvb.out).1 (SV.r HSva.out).2.1 (SV.r HSvb.out).2.1 HSwa.out HSwb.out).mono ?_
                  rintro e w31 ⟨rfl, hb⟩
                  replace HX := Lib.hid (HX.out.keep hb)
                  replace HY := Lib.hid (HY.out.keep hb)
                  replace HP := Lib.hid (HP.out.keep hb)
                  replace HQ := Lib.hid (HQ.out.keep hb)
                  replace HZ := Lib.hid (HZ.out.keep hb)
                  replace HT := Lib.hid (HT.out.keep hb)
                  replace HB1 := Lib.hid (HB1.out.keep hb)
                  replace HB2 := Lib.hid (HB2.out.keep hb)
                  replace HB3 := Lib.hid (HB3.out.keep hb)
                  replace HBd := Lib.hid (HBd.out.keep hb)
                  replace HSxa := Lib.hid (HSxa.out.keep hb)
                  replace HSxb := Lib.hid (HSxb.out.keep hb)
                  replace HOx := Lib.hid (HOx.out.keep hb)
                  replace HSya := Lib.hid (HSya.out.keep hb)
                  replace HSyb := Lib.hid (HSyb.out.keep hb)
                  replace HOy := Lib.hid (HOy.out.keep hb)
                  replace HSua := Lib.hid (HSua.out.keep hb)
                  replace HSub := Lib.hid (HSub.out.keep hb)
                  replace HOu := Lib.hid (HOu.out.keep hb)
                  replace HSva := Lib.hid (HSva.out.keep hb)
                  replace HSvb := Lib.hid (HSvb.out.keep hb)
                  replace HOv := Lib.hid (HOv.out.keep hb)
                  replace HSwa := Lib.hid (HSwa.out.keep hb)
                  replace HSwb := Lib.hid (HSwb.out.keep hb)
                  replace HOw := Lib.hid (HOw.out.keep hb)
                  replace HB := bel_tr HB hb
                  clear hb
                  go_wp2_with fail
                  refine (HKn.out _).mono ?_
                  rintro e w32 ⟨rfl, hb⟩
                  replace HX := Lib.hid (HX.out.keep hb)
                  replace HY := Lib.hid (HY.out.keep hb)
                  replace HP := Lib.hid (HP.out.keep hb)
                  replace HQ := Lib.hid (HQ.out.keep hb)
                  replace HZ := Lib.hid (HZ.out.keep hb)
                  replace HT := Lib.hid (HT.out.keep hb)
                  replace HB1 := Lib.hid (HB1.out.keep hb)
                  replace HB2 := Lib.hid (HB2.out.keep hb)
                  replace HB3 := Lib.hid (HB3.out.keep hb)
                  replace HBd := Lib.hid (HBd.out.keep hb)
                  replace HSxa := Lib.hid (HSxa.out.keep hb)
                  replace HSxb := Lib.hid (HSxb.out.keep hb)
                  replace HOx := Lib.hid (HOx.out.keep hb)
                  replace HSya := Lib.hid (HSya.out.keep hb)
                  replace HSyb := Lib.hid (HSyb.out.keep hb)
                  replace HOy := Lib.hid (HOy.out.keep hb)
                  replace HSua := Lib.hid (HSua.out.keep hb)
                  replace HSub := Lib.hid (HSub.out.keep hb)
                  replace HOu := Lib.hid (HOu.out.keep hb)
                  replace HSva := Lib.hid (HSva.out.keep hb)
                  replace HSvb := Lib.hid (HSvb.out.keep hb)
                  replace HOv := Lib.hid (HOv.out.keep hb)
                  replace HSwa := Lib.hid (HSwa.out.keep hb)
                  replace HSwb := Lib.hid (HSwb.out.keep hb)
                  replace HOw := Lib.hid (HOw.out.keep hb)
                  replace HB := bel_tr HB hb
                  clear hb
                  go_wp2_with fail
                  go_ret
                  exact ⟨rfl, HB.out⟩
      · rw [show decide (zs.length ≤ 40 ∧ ts.length ≤ 40) = false by simpa using h3] at HLk
        clear h1 h2 h3
        go_enter Try.func8, Try.ntmps8
        go_wp2_with fail
        generalize (((w.alloc (cbox (.slice a xs.length n) (.slice b ys.length m))).alloc (cbox (.slice p us.length j) (.slice q vs.length k))).alloc (cbox (.slice c zs.length o) (.slice g ts.length r))).alloc (Obj.cells #[.int .i64 d1, .int .i64 d2] 38) = w1 at *
        refine (HLi.out _).mono ?_
        rintro e w2 ⟨rfl, hb⟩
        replace HX := Lib.hid (HX.out.keep hb)
        replace HY := Lib.hid (HY.out.keep hb)
        replace HP := Lib.hid (HP.out.keep hb)
        replace HQ := Lib.hid (HQ.out.keep hb)
        replace HZ := Lib.hid (HZ.out.keep hb)
        replace HT := Lib.hid (HT.out.keep hb)
        replace HB1 := Lib.hid (HB1.out.keep hb)
        replace HB2 := Lib.hid (HB2.out.keep hb)
        replace HB3 := Lib.hid (HB3.out.keep hb)
        replace HBd := Lib.hid (HBd.out.keep hb)
        replace HB := bel_tr HB hb
        clear hb
        clear k0 k1
        have k0 := HB1.out.1
        have k1 := HB1.out.2
        have k2 := HB2.out.1
        have k3 := HB2.out.2
        have k4 := HB3.out.1
        have k5 := HB3.out.2
        go_wp2_with fail
        refine (HLj.out _).mono ?_
        rintro e w3 ⟨rfl, hb⟩
        replace HX := Lib.hid (HX.out.keep hb)
        replace HY := Lib.hid (HY.out.keep hb)
        replace HP := Lib.hid (HP.out.keep hb)
        replace HQ := Lib.hid (HQ.out.keep hb)
        replace HZ := Lib.hid (HZ.out.keep hb)
        replace HT := Lib.hid (HT.out.keep hb)
        replace HB1 := Lib.hid (HB1.out.keep hb)
        replace HB2 := Lib.hid (HB2.out.keep hb)
        replace HB3 := Lib.hid (HB3.out.keep hb)
        replace HBd := Lib.hid (HBd.out.keep hb)
        replace HB := bel_tr HB hb
        clear hb
        clear k0 k1 k2 k3 k4 k5
        have k0 := HB1.out.1
        have k1 := HB1.out.2
        have k2 := HB2.out.1
        have k3 := HB2.out.2
        have k4 := HB3.out.1
        have k5 := HB3.out.2
        go_wp2_with fail
        refine (HLk.out _).mono ?_
        rintro e w4 ⟨rfl, hb⟩
        replace HX := Lib.hid (HX.out.keep hb)
        replace HY := Lib.hid (HY.out.keep hb)
        replace HP := Lib.hid (HP.out.keep hb)
        replace HQ := Lib.hid (HQ.out.keep hb)
        replace HZ := Lib.hid (HZ.out.keep hb)
        replace HT := Lib.hid (HT.out.keep hb)
        replace HB1 := Lib.hid (HB1.out.keep hb)
        replace HB2 := Lib.hid (HB2.out.keep hb)
        replace HB3 := Lib.hid (HB3.out.keep hb)
        replace HBd := Lib.hid (HBd.out.keep hb)
        replace HB := bel_tr HB hb
        clear hb
        clear k0 k1 k2 k3 k4 k5
        have k0 := HB1.out.1
        have k1 := HB1.out.2
        have k2 := HB2.out.1
        have k3 := HB2.out.2
        have k4 := HB3.out.1
        have k5 := HB3.out.2
        go_wp2_with fail
        refine (HKn.out _).mono ?_
        rintro e w5 ⟨rfl, hb⟩
        replace HX := Lib.hid (HX.out.keep hb)
        replace HY := Lib.hid (HY.out.keep hb)
        replace HP := Lib.hid (HP.out.keep hb)
        replace HQ := Lib.hid (HQ.out.keep hb)
        replace HZ := Lib.hid (HZ.out.keep hb)
        replace HT := Lib.hid (HT.out.keep hb)
        replace HB1 := Lib.hid (HB1.out.keep hb)
        replace HB2 := Lib.hid (HB2.out.keep hb)
        replace HB3 := Lib.hid (HB3.out.keep hb)
        replace HBd := Lib.hid (HBd.out.keep hb)
        replace HB := bel_tr HB hb
        clear hb
        go_wp2_with fail
        go_ret
        exact ⟨rfl, HB.out⟩
    · rw [show decide (us.length ≤ 40 ∧ vs.length ≤ 40) = false by simpa using h2] at HLj
      clear h1 h2
      go_enter Try.func8, Try.ntmps8
      go_wp2_with fail
      generalize (((w.alloc (cbox (.slice a xs.length n) (.slice b ys.length m))).alloc (cbox (.slice p us.length j) (.slice q vs.length k))).alloc (cbox (.slice c zs.length o) (.slice g ts.length r))).alloc (Obj.cells #[.int .i64 d1, .int .i64 d2] 38) = w1 at *
      refine (HLi.out _).mono ?_
      rintro e w2 ⟨rfl, hb⟩
      replace HX := Lib.hid (HX.out.keep hb)
      replace HY := Lib.hid (HY.out.keep hb)
      replace HP := Lib.hid (HP.out.keep hb)
      replace HQ := Lib.hid (HQ.out.keep hb)
      replace HZ := Lib.hid (HZ.out.keep hb)
      replace HT := Lib.hid (HT.out.keep hb)
      replace HB1 := Lib.hid (HB1.out.keep hb)
      replace HB2 := Lib.hid (HB2.out.keep hb)
      replace HB3 := Lib.hid (HB3.out.keep hb)
      replace HBd := Lib.hid (HBd.out.keep hb)
      replace HB := bel_tr HB hb
      clear hb
      clear k0 k1
      have k0 := HB1.out.1
      have k1 := HB1.out.2
      have k2 := HB2.out.1
      have k3 := HB2.out.2
      have k4 := HB3.out.1
      have k5 := HB3.out.2
      go_wp2_with fail
      refine (HLj.out _).mono ?_
      rintro e w3 ⟨rfl, hb⟩
      replace HX := Lib.hid (HX.out.keep hb)
      replace HY := Lib.hid (HY.out.keep hb)
      replace HP := Lib.hid (HP.out.keep hb)
      replace HQ := Lib.hid (HQ.out.keep hb)
      replace HZ := Lib.hid (HZ.out.keep hb)
      replace HT := Lib.hid (HT.out.keep hb)
      replace HB1 := Lib.hid (HB1.out.keep hb)
      replace HB2 := Lib.hid (HB2.out.keep hb)
      replace HB3 := Lib.hid (HB3.out.keep hb)
      replace HBd := Lib.hid (HBd.out.keep hb)
      replace HB := bel_tr HB hb
      clear hb
      clear k0 k1 k2 k3 k4 k5
      have k0 := HB1.out.1
      have k1 := HB1.out.2
      have k2 := HB2.out.1
      have k3 := HB2.out.2
      have k4 := HB3.out.1
      have k5 := HB3.out.2
      go_wp2_with fail
      refine (HKn.out _).mono ?_
      rintro e w4 ⟨rfl, hb⟩
      replace HX := Lib.hid (HX.out.keep hb)
      replace HY := Lib.hid (HY.out.keep hb)
      replace HP := Lib.hid (HP.out.keep hb)
      replace HQ := Lib.hid (HQ.out.keep hb)
      replace HZ := Lib.hid (HZ.out.keep hb)
      replace HT := Lib.hid (HT.out.keep hb)
      replace HB1 := Lib.hid (HB1.out.keep hb)
      replace HB2 := Lib.hid (HB2.out.keep hb)
      replace HB3 := Lib.hid (HB3.out.keep hb)
      replace HBd := Lib.hid (HBd.out.keep hb)
      replace HB := bel_tr HB hb
      clear hb
      go_wp2_with fail
      go_ret
      exact ⟨rfl, HB.out⟩
  · rw [show decide (xs.length ≤ 40 ∧ ys.length ≤ 40) = false by simpa using h1] at HLi
    clear h1
    go_enter Try.func8, Try.ntmps8
    go_wp2_with fail
    generalize (((w.alloc (cbox (.slice a xs.length n) (.slice b ys.length m))).alloc (cbox (.slice p us.length j) (.slice q vs.length k))).alloc (cbox (.slice c zs.length o) (.slice g ts.length r))).alloc (Obj.cells #[.int .i64 d1, .int .i64 d2] 38) = w1 at *
    refine (HLi.out _).mono ?_
    rintro e w2 ⟨rfl, hb⟩
    replace HX := Lib.hid (HX.out.keep hb)
    replace HY := Lib.hid (HY.out.keep hb)
    replace HP := Lib.hid (HP.out.keep hb)
    replace HQ := Lib.hid (HQ.out.keep hb)
    replace HZ := Lib.hid (HZ.out.keep hb)
    replace HT := Lib.hid (HT.out.keep hb)
    replace HB1 := Lib.hid (HB1.out.keep hb)
    replace HB2 := Lib.hid (HB2.out.keep hb)
    replace HB3 := Lib.hid (HB3.out.keep hb)
    replace HBd := Lib.hid (HBd.out.keep hb)
    replace HB := bel_tr HB hb
    clear hb
    clear k0 k1
    have k0 := HB1.out.1
    have k1 := HB1.out.2
    have k2 := HB2.out.1
    have k3 := HB2.out.2
    have k4 := HB3.out.1
    have k5 := HB3.out.2
    go_wp2_with fail
    refine (HKn.out _).mono ?_
    rintro e w3 ⟨rfl, hb⟩
    replace HX := Lib.hid (HX.out.keep hb)
    replace HY := Lib.hid (HY.out.keep hb)
    replace HP := Lib.hid (HP.out.keep hb)
    replace HQ := Lib.hid (HQ.out.keep hb)
    replace HZ := Lib.hid (HZ.out.keep hb)
    replace HT := Lib.hid (HT.out.keep hb)
    replace HB1 := Lib.hid (HB1.out.keep hb)
    replace HB2 := Lib.hid (HB2.out.keep hb)
    replace HB3 := Lib.hid (HB3.out.keep hb)
    replace HBd := Lib.hid (HBd.out.keep hb)
    replace HB := bel_tr HB hb
    clear hb
    go_wp2_with fail
    go_ret
    exact ⟨rfl, HB.out⟩
end Go.Proofs.Ytefnoajkdhgonaa.F
