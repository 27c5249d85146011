/-
  The law StoreHolds.
-/
import Derived.Test.YtfpfihmihlmobaaGreatMQLLooks
import Derived.Test.YtfpfihmihlmobaaGreatQPX
namespace Go.Proofs.YtfpfihmihlmobaaGreat.Qs
set_option linter.unusedVariables false
open Go.RowKit V Go.Sort D Nd
attribute [local irreducible] Sch.heldN Sch.stepV Sch.stepE

/-- A box with a node, in which the rune becomes 0. -/
theorem nb_kill {w : World} {g : Nat} {n : Nt} (h : Nb w g n) : Nb (w.setCell ⟨g, 5, none⟩ (.int .i32 0)) g (killN n) := by
  obtain ⟨h0, h1, h2, h3, h4, h5⟩ := h
  refine ⟨?_, ?_, ?_, ?_, ?_, ?_⟩ <;> go_simp
  all_goals rfl

set_option maxRecDepth 100000 in
set_option maxHeartbeats 16000000 in
theorem holds_law (l : List Nt) (n : Nt) (dots : List Dt) (a b : Option Addr) (c m : Nat) (w : World) (hf : ∀ x ∈ l, fitN x) (hfn : fitN n) (hd : ∀ x ∈ dots, fitD x) (hx : RowN w a l) (hy : RowD w b dots) (hna : a = none → c = 0) (hl : l.length ≤ 9223372036854775807) (hl2 : dots.length ≤ 9223372036854775807) :
    Calls Tryz.prog 8 #[.slice a l.length c, nv n, .slice b dots.length m] w fun e w' => e = .returned (.bool true) ∧ Below w.heap.size w w' := by
  have HF := Lib.hid hf
  have HfN := Lib.hid hfn
  have HfD := Lib.hid hd
  have HNa := Lib.hid hna
  have HK := Lib.hid (Nb.new w n)
  have HB := Lib.hid (bel_box w (.cells (nc n) 35))
  have HX := Lib.hid (hx.keep HB.out)
  have HY := Lib.hid (hy.keep HB.out)
  clear hf hfn hd hx hy hna hl hl2
  rcases Nat.lt_or_ge 60 l.length with h60 | h60
  · have hg : decide ((60 : Int) < (l.length : Int)) = true := by simp; omega
    go_enter Tryz.func8, Tryz.ntmps8
    go_wp2_with fail
    generalize (w.alloc (.cells (nc n) 35)) = w1 at *
    refine (known_any _).mono ?_
    rintro e w901 ⟨rfl, hb⟩
    replace HB := bel_tr HB hb
    clear hb
    go_wp2_with fail
    go_ret
    exact ⟨rfl, HB.out⟩
  have hg : decide ((60 : Int) < (l.length : Int)) = false := by simp; omega
  rcases Nat.lt_or_ge 40 dots.length with h40 | h40
  · have hg2 : decide ((40 : Int) < (dots.length : Int)) = true := by simp; omega
    go_enter Tryz.func8, Tryz.ntmps8
    go_wp2_with fail
    generalize (w.alloc (.cells (nc n) 35)) = w1 at *
    refine (known_any _).mono ?_
    rintro e w902 ⟨rfl, hb⟩
    replace HB := bel_tr HB hb
    clear hb
    go_wp2_with fail
    go_ret
    exact ⟨rfl, HB.out⟩
  have hg2 : decide ((40 : Int) < (dots.length : Int)) = false := by simp; omega
  have HV := Lib.hid (fun w h => validS_any l a c w h (by omega))
  rcases hv : validS l with _ | _
  · rw [hv] at HV
    clear hv
    go_enter Tryz.func8, Tryz.ntmps8
    go_wp2_with fail
    generalize (w.alloc (.cells (nc n) 35)) = w1 at *
    refine (HV.out _ HX.out).mono ?_
    rintro e w2 ⟨rfl, hb⟩
    replace HB := bel_tr HB hb
    clear hb HV
    go_wp2_with fail
    refine (known_any _).mono ?_
    rintro e w903 ⟨rfl, hb⟩
    replace HB := bel_tr HB hb
    clear hb
    go_wp2_with fail
    go_ret
    exact ⟨rfl, HB.out⟩
  have HH := Lib.hid hv
  rw [hv] at HV
  clear hv
  have HPk := Lib.hid (put_holds (l := l) (n := n))
  have HPt := Lib.hid (fun w h => put_prog l n a c w HF.out HfN.out h HNa.out (by omega))
  generalize putP l n = R at *
  obtain ⟨x, q⟩ := R
  simp only at HPk HPt
  have HKy := Lib.hid (kill_holds (l := l) (dots := dots))
  have HKn := Lib.hid (kill_none (l := l) (dots := dots))
  have HKp := Lib.hid (fun w h k => kill_prog l dots a b c m w HF.out HfD.out h k HNa.out (by omega) (by omega))
  generalize killP l dots = R at *
  obtain ⟨Y, z⟩ := R
  simp only at HKy HKn HKp
  go_enter Tryz.func8, Tryz.ntmps8
  go_wp2_with fail
  generalize (w.alloc (.cells (nc n) 35)) = w1 at *
  refine (HV.out _ HX.out).mono ?_
  rintro e w2 ⟨rfl, hb⟩
  replace HX := Lib.hid (HX.out.keep hb)
  replace HY := Lib.hid (HY.out.keep hb)
  replace HK := Lib.hid (HK.out.keep hb)
  replace HB := bel_tr HB hb
  clear hb HV
  go_wp2_with fail
  have HC := Lib.hid (made_true l a c l 0 a c w2 (of_self HH.out) HF.out HX.out (by omega) HX.out (by omega))
  refine HC.out.mono ?_
  rintro e w3 ⟨rfl, hb⟩
  replace HX := Lib.hid (HX.out.keep hb)
  replace HY := Lib.hid (HY.out.keep hb)
  replace HK := Lib.hid (HK.out.keep hb)
  replace HB := bel_tr HB hb
  clear hb HC
  obtain ⟨y0, y1, y2, y3, y4, y5⟩ := HK.out
  go_wp2_with fail
  clear y0 y1 y2 y3 y4 y5
  refine (HPt.out _ HX.out).mono ?_
  rintro e w4 ⟨v, rfl, ho, hb⟩
  obtain ⟨a1, c1, rfl, hr1, hn1, -, -⟩ := ho.row
  replace HX := Lib.hid (HX.out.keep hb)
  replace HY := Lib.hid (HY.out.keep hb)
  replace HK := Lib.hid (HK.out.keep hb)
  replace HB := bel_tr HB hb
  have HR := Lib.hid hr1
  have HN1 : Hid (a1 = none → c1 = 0) := fun h => (hn1 h).1
  clear hb ho hr1 hn1 HPt
  go_upto_if 42 with fail
  go_cut [99] from 9 to 99 (fun _ wx => Hid (RowN wx a l) ∧ Hid (RowD wx b dots) ∧ Hid (Below w.heap.size w wx))
  case first =>
    by_cases hq : q = 0
    · subst hq
      obtain ⟨hvx, hvd, hfn, hwas, hnow, hal, hag⟩ := HPk.out rfl
      have HVx := Lib.hid hvx
      have HFx := Lib.hid (fit_store hvx)
      have HAg := Lib.hid hag
      generalize upN l n = u at *
      have HFn := Lib.hid hnow
      clear hvx hvd hfn hnow hag HPk
      rcases hwas with ⟨hat, hfi, hxl⟩ | ⟨r, hat, hfi, hxl, hwr⟩
      · have HFi := Lib.hid hfi
        have HXl : Hid (x.length ≤ 61) := by show _ ≤ _; omega
        have hxd : ¬ (x.length : Int) = (l.length : Int) := by omega
        have hxe : decide ((x.length : Int) = (l.length : Int)) = false := decide_eq_false hxd
        have hxb : ((x.length : Int) == (l.length : Int)) = false := by simp; omega
        clear hat hfi hxl
        by_cases hu : u.2.2.2 = 0
        · clear hal
          have HU0 := Lib.hid hu
          clear hu
          obtain ⟨y0, y1, y2, y3, y4, y5⟩ := HK.out
          go_wp2_with fail
          clear y0 y1 y2 y3 y4 y5
          have HC := Lib.hid (find_any l n.1 a c w4 HF.out HfN.out.1 HX.out (by omega))
          rw [HFi.out] at HC
          refine HC.out.mono ?_
          rintro e w5 ⟨rfl, hb⟩
          replace HX := Lib.hid (HX.out.keep hb)
          replace HY := Lib.hid (HY.out.keep hb)
          replace HK := Lib.hid (HK.out.keep hb)
          replace HR := Lib.hid (HR.out.keep hb)
          replace HB := bel_tr HB hb
          clear hb HC
          have HW := Lib.hid (Nb.new w5 zeroN)
          have hb := bel_box w5 (.cells (nc zeroN) 35)
          replace HX := Lib.hid (HX.out.keep hb)
          replace HY := Lib.hid (HY.out.keep hb)
          replace HK := Lib.hid (HK.out.keep hb)
          replace HR := Lib.hid (HR.out.keep hb)
          replace HB := bel_tr HB hb
          clear hb
          obtain ⟨y0, y1, y2, y3, y4, y5⟩ := HK.out
          go_wp2_with fail
          clear y0 y1 y2 y3 y4 y5
          generalize (w5.alloc (.cells (nc zeroN) 35)) = w6 at *
          generalize w5.heap.size = g9 at *
          have HC := Lib.hid (find_any x n.1 a1 c1 w6 HFx.out HfN.out.1 HR.out (by have := HXl.out; omega))
          rw [HFn.out] at HC
          refine HC.out.mono ?_
          rintro e w7 ⟨rfl, hb⟩
          replace HX := Lib.hid (HX.out.keep hb)
          replace HY := Lib.hid (HY.out.keep hb)
          replace HK := Lib.hid (HK.out.keep hb)
          replace HR := Lib.hid (HR.out.keep hb)
          replace HW := Lib.hid (HW.out.keep hb)
          replace HB := bel_tr HB hb
          clear hb HC
          have HU := Lib.hid (Nb.new w7 u)
          have hb := bel_box w7 (.cells (nc u) 35)
          replace HX := Lib.hid (HX.out.keep hb)
          replace HY := Lib.hid (HY.out.keep hb)
          replace HK := Lib.hid (HK.out.keep hb)
          replace HR := Lib.hid (HR.out.keep hb)
          replace HW := Lib.hid (HW.out.keep hb)
          replace HB := bel_tr HB hb
          clear hb
          go_wp2_with fail
          generalize (w7.alloc (.cells (nc u) 35)) = w8 at *
          generalize w7.heap.size = g11 at *
          have HC := Lib.hid (validS_any x a1 c1 w8 HR.out (by have := HXl.out; omega))
          rw [HVx.out] at HC
          refine HC.out.mono ?_
          rintro e w9 ⟨rfl, hb⟩
          replace HX := Lib.hid (HX.out.keep hb)
          replace HY := Lib.hid (HY.out.keep hb)
          replace HK := Lib.hid (HK.out.keep hb)
          replace HR := Lib.hid (HR.out.keep hb)
          replace HW := Lib.hid (HW.out.keep hb)
          replace HU := Lib.hid (HU.out.keep hb)
          replace HB := bel_tr HB hb
          clear hb HC
          obtain ⟨y0, y1, y2, y3, y4, y5⟩ := HK.out
          have hu := HU0.out
          obtain ⟨u0, u1, u2, u3, u4, u5⟩ := HU.out
          obtain ⟨v0, v1, v2, v3, v4, v5⟩ := HW.out
          go_wp2_with fail
          clear u0 u1 u2 u3 u4 u5 v0 v1 v2 v3 v4 v5
          clear y0 y1 y2 y3 y4 y5
          have HC := Lib.hid (puts_true x n a1 c1 x 0 a1 c1 w9 HAg.out HFx.out HfN.out HR.out HN1.out (by have := HXl.out; omega) HR.out (by have := HXl.out; omega))
          refine HC.out.mono ?_
          rintro e w10 ⟨rfl, hb⟩
          replace HX := Lib.hid (HX.out.keep hb)
          replace HY := Lib.hid (HY.out.keep hb)
          replace HB := bel_tr HB hb
          clear hb HC HK HR HW HU
          go_wp2_with fail
          go_meet
          case rel => exact ⟨HX, HY, HB⟩
        · have hn6 := hal hu
          have hu1 : (u.2.2.2 == 0) = false := by simp [hu]
          have hn1 : (n.2.2.2 == 0) = false := by simp [hn6]
          clear hal
          obtain ⟨y0, y1, y2, y3, y4, y5⟩ := HK.out
          go_wp2_with fail
          clear y0 y1 y2 y3 y4 y5
          have HC := Lib.hid (find_any l n.1 a c w4 HF.out HfN.out.1 HX.out (by omega))
          rw [HFi.out] at HC
          refine HC.out.mono ?_
          rintro e w5 ⟨rfl, hb⟩
          replace HX := Lib.hid (HX.out.keep hb)
          replace HY := Lib.hid (HY.out.keep hb)
          replace HK := Lib.hid (HK.out.keep hb)
          replace HR := Lib.hid (HR.out.keep hb)
          replace HB := bel_tr HB hb
          clear hb HC
          have HW := Lib.hid (Nb.new w5 zeroN)
          have hb := bel_box w5 (.cells (nc zeroN) 35)
          replace HX := Lib.hid (HX.out.keep hb)
          replace HY := Lib.hid (HY.out.keep hb)
          replace HK := Lib.hid (HK.out.keep hb)
          replace HR := Lib.hid (HR.out.keep hb)
          replace HB := bel_tr HB hb
          clear hb
          obtain ⟨y0, y1, y2, y3, y4, y5⟩ := HK.out
          go_wp2_with fail
          clear y0 y1 y2 y3 y4 y5
          generalize (w5.alloc (.cells (nc zeroN) 35)) = w6 at *
          generalize w5.heap.size = g9 at *
          have HC := Lib.hid (find_any x n.1 a1 c1 w6 HFx.out HfN.out.1 HR.out (by have := HXl.out; omega))
          rw [HFn.out] at HC
          refine HC.out.mono ?_
          rintro e w7 ⟨rfl, hb⟩
          replace HX := Lib.hid (HX.out.keep hb)
          replace HY := Lib.hid (HY.out.keep hb)
          replace HK := Lib.hid (HK.out.keep hb)
          replace HR := Lib.hid (HR.out.keep hb)
          replace HW := Lib.hid (HW.out.keep hb)
          replace HB := bel_tr HB hb
          clear hb HC
          have HU := Lib.hid (Nb.new w7 u)
          have hb := bel_box w7 (.cells (nc u) 35)
          replace HX := Lib.hid (HX.out.keep hb)
          replace HY := Lib.hid (HY.out.keep hb)
          replace HK := Lib.hid (HK.out.keep hb)
          replace HR := Lib.hid (HR.out.keep hb)
          replace HW := Lib.hid (HW.out.keep hb)
          replace HB := bel_tr HB hb
          clear hb
          go_wp2_with fail
          generalize (w7.alloc (.cells (nc u) 35)) = w8 at *
          generalize w7.heap.size = g11 at *
          have HC := Lib.hid (validS_any x a1 c1 w8 HR.out (by have := HXl.out; omega))
          rw [HVx.out] at HC
          refine HC.out.mono ?_
          rintro e w9 ⟨rfl, hb⟩
          replace HX := Lib.hid (HX.out.keep hb)
          replace HY := Lib.hid (HY.out.keep hb)
          replace HK := Lib.hid (HK.out.keep hb)
          replace HR := Lib.hid (HR.out.keep hb)
          replace HW := Lib.hid (HW.out.keep hb)
          replace HU := Lib.hid (HU.out.keep hb)
          replace HB := bel_tr HB hb
          clear hb HC
          obtain ⟨y0, y1, y2, y3, y4, y5⟩ := HK.out
          skip
          obtain ⟨u0, u1, u2, u3, u4, u5⟩ := HU.out
          obtain ⟨v0, v1, v2, v3, v4, v5⟩ := HW.out
          go_wp2_with fail
          clear u0 u1 u2 u3 u4 u5 v0 v1 v2 v3 v4 v5
          clear y0 y1 y2 y3 y4 y5
          have HC := Lib.hid (puts_true x n a1 c1 x 0 a1 c1 w9 HAg.out HFx.out HfN.out HR.out HN1.out (by have := HXl.out; omega) HR.out (by have := HXl.out; omega))
          refine HC.out.mono ?_
          rintro e w10 ⟨rfl, hb⟩
          replace HX := Lib.hid (HX.out.keep hb)
          replace HY := Lib.hid (HY.out.keep hb)
          replace HB := bel_tr HB hb
          clear hb HC HK HR HW HU
          go_wp2_with fail
          go_meet
          case rel => exact ⟨HX, HY, HB⟩
      · have HFi := Lib.hid hfi
        have HXl : Hid (x.length ≤ 61) := by show _ ≤ _; omega
        have hxe : decide ((x.length : Int) = (l.length : Int)) = true := decide_eq_true (by omega)
        have hxb : ((x.length : Int) == (l.length : Int)) = true := by simp; omega
        clear hat hfi hxl
        by_cases hu : u.2.2.2 = 0
        · clear hal hwr
          have HU0 := Lib.hid hu
          clear hu
          obtain ⟨y0, y1, y2, y3, y4, y5⟩ := HK.out
          go_wp2_with fail
          clear y0 y1 y2 y3 y4 y5
          have HC := Lib.hid (find_any l n.1 a c w4 HF.out HfN.out.1 HX.out (by omega))
          rw [HFi.out] at HC
          refine HC.out.mono ?_
          rintro e w5 ⟨rfl, hb⟩
          replace HX := Lib.hid (HX.out.keep hb)
          replace HY := Lib.hid (HY.out.keep hb)
          replace HK := Lib.hid (HK.out.keep hb)
          replace HR := Lib.hid (HR.out.keep hb)
          replace HB := bel_tr HB hb
          clear hb HC
          have HW := Lib.hid (Nb.new w5 r)
          have hb := bel_box w5 (.cells (nc r) 35)
          replace HX := Lib.hid (HX.out.keep hb)
          replace HY := Lib.hid (HY.out.keep hb)
          replace HK := Lib.hid (HK.out.keep hb)
          replace HR := Lib.hid (HR.out.keep hb)
          replace HB := bel_tr HB hb
          clear hb
          obtain ⟨y0, y1, y2, y3, y4, y5⟩ := HK.out
          go_wp2_with fail
          clear y0 y1 y2 y3 y4 y5
          generalize (w5.alloc (.cells (nc r) 35)) = w6 at *
          generalize w5.heap.size = g9 at *
          have HC := Lib.hid (find_any x n.1 a1 c1 w6 HFx.out HfN.out.1 HR.out (by have := HXl.out; omega))
          rw [HFn.out] at HC
          refine HC.out.mono ?_
          rintro e w7 ⟨rfl, hb⟩
          replace HX := Lib.hid (HX.out.keep hb)
          replace HY := Lib.hid (HY.out.keep hb)
          replace HK := Lib.hid (HK.out.keep hb)
          replace HR := Lib.hid (HR.out.keep hb)
          replace HW := Lib.hid (HW.out.keep hb)
          replace HB := bel_tr HB hb
          clear hb HC
          have HU := Lib.hid (Nb.new w7 u)
          have hb := bel_box w7 (.cells (nc u) 35)
          replace HX := Lib.hid (HX.out.keep hb)
          replace HY := Lib.hid (HY.out.keep hb)
          replace HK := Lib.hid (HK.out.keep hb)
          replace HR := Lib.hid (HR.out.keep hb)
          replace HW := Lib.hid (HW.out.keep hb)
          replace HB := bel_tr HB hb
          clear hb
          go_wp2_with fail
          generalize (w7.alloc (.cells (nc u) 35)) = w8 at *
          generalize w7.heap.size = g11 at *
          have HC := Lib.hid (validS_any x a1 c1 w8 HR.out (by have := HXl.out; omega))
          rw [HVx.out] at HC
          refine HC.out.mono ?_
          rintro e w9 ⟨rfl, hb⟩
          replace HX := Lib.hid (HX.out.keep hb)
          replace HY := Lib.hid (HY.out.keep hb)
          replace HK := Lib.hid (HK.out.keep hb)
          replace HR := Lib.hid (HR.out.keep hb)
          replace HW := Lib.hid (HW.out.keep hb)
          replace HU := Lib.hid (HU.out.keep hb)
          replace HB := bel_tr HB hb
          clear hb HC
          obtain ⟨y0, y1, y2, y3, y4, y5⟩ := HK.out
          have hu := HU0.out
          obtain ⟨u0, u1, u2, u3, u4, u5⟩ := HU.out
          obtain ⟨v0, v1, v2, v3, v4, v5⟩ := HW.out
          go_wp2_with fail
          clear u0 u1 u2 u3 u4 u5 v0 v1 v2 v3 v4 v5
          clear y0 y1 y2 y3 y4 y5
          have HC := Lib.hid (puts_true x n a1 c1 x 0 a1 c1 w9 HAg.out HFx.out HfN.out HR.out HN1.out (by have := HXl.out; omega) HR.out (by have := HXl.out; omega))
          refine HC.out.mono ?_
          rintro e w10 ⟨rfl, hb⟩
          replace HX := Lib.hid (HX.out.keep hb)
          replace HY := Lib.hid (HY.out.keep hb)
          replace HB := bel_tr HB hb
          clear hb HC HK HR HW HU
          go_wp2_with fail
          go_meet
          case rel => exact ⟨HX, HY, HB⟩
        · have hn6 := hal hu
          have hr6 := hwr hu
          have hu1 : (u.2.2.2 == 0) = false := by simp [hu]
          have hn1 : (n.2.2.2 == 0) = false := by simp [hn6]
          have hr1 : (r.2.2.2 == 0) = false := by simp [hr6]
          clear hal hwr
          obtain ⟨y0, y1, y2, y3, y4, y5⟩ := HK.out
          go_wp2_with fail
          clear y0 y1 y2 y3 y4 y5
          have HC := Lib.hid (find_any l n.1 a c w4 HF.out HfN.out.1 HX.out (by omega))
          rw [HFi.out] at HC
          refine HC.out.mono ?_
          rintro e w5 ⟨rfl, hb⟩
          replace HX := Lib.hid (HX.out.keep hb)
          replace HY := Lib.hid (HY.out.keep hb)
          replace HK := Lib.hid (HK.out.keep hb)
          replace HR := Lib.hid (HR.out.keep hb)
          replace HB := bel_tr HB hb
          clear hb HC
          have HW := Lib.hid (Nb.new w5 r)
          have hb := bel_box w5 (.cells (nc r) 35)
          replace HX := Lib.hid (HX.out.keep hb)
          replace HY := Lib.hid (HY.out.keep hb)
          replace HK := Lib.hid (HK.out.keep hb)
          replace HR := Lib.hid (HR.out.keep hb)
          replace HB := bel_tr HB hb
          clear hb
          obtain ⟨y0, y1, y2, y3, y4, y5⟩ := HK.out
          go_wp2_with fail
          clear y0 y1 y2 y3 y4 y5
          generalize (w5.alloc (.cells (nc r) 35)) = w6 at *
          generalize w5.heap.size = g9 at *
          have HC := Lib.hid (find_any x n.1 a1 c1 w6 HFx.out HfN.out.1 HR.out (by have := HXl.out; omega))
          rw [HFn.out] at HC
          refine HC.out.mono ?_
          rintro e w7 ⟨rfl, hb⟩
          replace HX := Lib.hid (HX.out.keep hb)
          replace HY := Lib.hid (HY.out.keep hb)
          replace HK := Lib.hid (HK.out.keep hb)
          replace HR := Lib.hid (HR.out.keep hb)
          replace HW := Lib.hid (HW.out.keep hb)
          replace HB := bel_tr HB hb
          clear hb HC
          have HU := Lib.hid (Nb.new w7 u)
          have hb := bel_box w7 (.cells (nc u) 35)
          replace HX := Lib.hid (HX.out.keep hb)
          replace HY := Lib.hid (HY.out.keep hb)
          replace HK := Lib.hid (HK.out.keep hb)
          replace HR := Lib.hid (HR.out.keep hb)
          replace HW := Lib.hid (HW.out.keep hb)
          replace HB := bel_tr HB hb
          clear hb
          go_wp2_with fail
          generalize (w7.alloc (.cells (nc u) 35)) = w8 at *
          generalize w7.heap.size = g11 at *
          have HC := Lib.hid (validS_any x a1 c1 w8 HR.out (by have := HXl.out; omega))
          rw [HVx.out] at HC
          refine HC.out.mono ?_
          rintro e w9 ⟨rfl, hb⟩
          replace HX := Lib.hid (HX.out.keep hb)
          replace HY := Lib.hid (HY.out.keep hb)
          replace HK := Lib.hid (HK.out.keep hb)
          replace HR := Lib.hid (HR.out.keep hb)
          replace HW := Lib.hid (HW.out.keep hb)
          replace HU := Lib.hid (HU.out.keep hb)
          replace HB := bel_tr HB hb
          clear hb HC
          obtain ⟨y0, y1, y2, y3, y4, y5⟩ := HK.out
          skip
          obtain ⟨u0, u1, u2, u3, u4, u5⟩ := HU.out
          obtain ⟨v0, v1, v2, v3, v4, v5⟩ := HW.out
          go_wp2_with fail
          clear u0 u1 u2 u3 u4 u5 v0 v1 v2 v3 v4 v5
          clear y0 y1 y2 y3 y4 y5
          have HC := Lib.hid (puts_true x n a1 c1 x 0 a1 c1 w9 HAg.out HFx.out HfN.out HR.out HN1.out (by have := HXl.out; omega) HR.out (by have := HXl.out; omega))
          refine HC.out.mono ?_
          rintro e w10 ⟨rfl, hb⟩
          replace HX := Lib.hid (HX.out.keep hb)
          replace HY := Lib.hid (HY.out.keep hb)
          replace HB := bel_tr HB hb
          clear hb HC HK HR HW HU
          go_wp2_with fail
          go_meet
          case rel => exact ⟨HX, HY, HB⟩
    · have hqd : decide (q = 0) = false := decide_eq_false hq
      have hqb : (q == 0) = false := by simp [hq]
      go_wp2_with fail
      go_meet
      case rel => exact ⟨HX, HY, HB⟩
  case rest =>
    clear HX HY HK HR HB HN1 HPk
    obtain ⟨HX, HY, HB⟩ := hcut
    go_wp2_with fail
    refine (HKp.out _ HX.out HY.out).mono ?_
    rintro e w12 ⟨v, rfl, ho, hb⟩
    obtain ⟨a2, c2, rfl, hr2, -, -, -⟩ := ho.row
    replace HX := Lib.hid (HX.out.keep hb)
    replace HY := Lib.hid (HY.out.keep hb)
    replace HB := bel_tr HB hb
    have HR := Lib.hid hr2
    clear hb ho hr2 HKp
    by_cases hz : z = 0
    · subst hz
      obtain ⟨-, hYe, hYv, hYh⟩ := HKy.out rfl
      have HYl : Hid (Y.length = l.length) := by show _ = _; rw [hYe, List.length_map]
      have HYk : Hid (∀ k (hk : k < l.length), ∃ hk2 : k < Y.length, Y[k] = if l[k].1 ∈ dots then killN l[k] else l[k]) := by subst hYe; exact fun k hk => map_at hk
      have HCt := Lib.hid (ctxP_dead hYv)
      have HMn := Lib.hid (miss_none hYh)
      have HCl := Lib.hid (ctx_len2 hYv true)
      have HYv := Lib.hid hYv
      clear hYe hYv hYh HKy HKn
      rw [HYl.out]
      have HC := Lib.hid (dead_prog Y a2 c2 w12 HR.out (by have := HYl.out; omega))
      rw [HCt.out, HYl.out] at HC
      generalize ctxS Y true = C at *
      obtain ⟨xs, ys⟩ := C
      go_wp2_with fail
      refine HC.out.mono ?_
      rintro e w13 ⟨vx, vy, rfl, ho, hb⟩
      obtain ⟨A1, n1, rfl, hs1, -⟩ := ho.1.row
      obtain ⟨A2, n2, rfl, hs2, -⟩ := ho.2.row
      replace HX := Lib.hid (HX.out.keep hb)
      replace HY := Lib.hid (HY.out.keep hb)
      replace HR := Lib.hid (HR.out.keep hb)
      replace HB := bel_tr HB hb
      have HS1 := Lib.hid hs1
      have HS2 := Lib.hid hs2
      clear hb ho hs1 hs2 HC
      have HT := Lib.hid (F.two_new w13 (.slice A1 xs.length n1) (.slice A2 ys.length n2))
      have hb := bel_box w13 (F.cbox (.slice A1 xs.length n1) (.slice A2 ys.length n2))
      replace HX := Lib.hid (HX.out.keep hb)
      replace HY := Lib.hid (HY.out.keep hb)
      replace HR := Lib.hid (HR.out.keep hb)
      replace HS1 := Lib.hid (HS1.out.keep hb)
      replace HS2 := Lib.hid (HS2.out.keep hb)
      replace HB := bel_tr HB hb
      clear hb
      go_wp2_with fail
      generalize (w13.alloc (F.cbox (.slice A1 xs.length n1) (.slice A2 ys.length n2))) = w14 at *
      generalize w13.heap.size = g14 at *
      have HC := Lib.hid (validS_any Y a2 c2 w14 HR.out (by have := HYl.out; omega))
      rw [HYv.out, HYl.out] at HC
      refine HC.out.mono ?_
      rintro e w15 ⟨rfl, hb⟩
      replace HX := Lib.hid (HX.out.keep hb)
      replace HY := Lib.hid (HY.out.keep hb)
      replace HR := Lib.hid (HR.out.keep hb)
      replace HS1 := Lib.hid (HS1.out.keep hb)
      replace HS2 := Lib.hid (HS2.out.keep hb)
      replace HT := Lib.hid (HT.out.keep hb)
      replace HB := bel_tr HB hb
      clear hb HC
      have t0 := HT.out.1
      have t1 := HT.out.2
      go_wp2_with fail
      clear t0 t1
      have HC := Lib.hid (F.missing_any xs ys dots A1 A2 b n1 n2 m w15 HS1.out HS2.out HY.out (by have := HCl.out; have := HYl.out; omega) (by have := HCl.out; have := HYl.out; omega) (by omega))
      rw [HMn.out] at HC
      refine HC.out.mono ?_
      rintro e w16 ⟨v, rfl, ho, hb⟩
      obtain ⟨A3, n3, rfl, -⟩ := ho.row
      replace HX := Lib.hid (HX.out.keep hb)
      replace HY := Lib.hid (HY.out.keep hb)
      replace HR := Lib.hid (HR.out.keep hb)
      replace HB := bel_tr HB hb
      clear hb ho HC HS1 HS2 HT
      go_wp2_with fail
      have hli : (l.length : Int) ≤ 60 := by omega
      go_loopw [15, 16, 142] (fun _ _ i wr => ∃ k : Nat, k ≤ l.length ∧ i = .int .i64 (k : Int) ∧ Hid (Below w16.heap.size w16 wr)) (fun _ _ i _ => l.length - (intOf i).toNat)
      case atStart => exact ⟨0, Nat.zero_le _, rfl, Below.refl _ _⟩
      case round =>
        obtain ⟨k, hk, rfl, HZ⟩ := hrel
        by_cases hlt : k < l.length
        · have hi0 : (k : Int) < (l.length : Int) := by omega
          obtain ⟨b1, o1, rfl, hnq⟩ := na_of (HX.out.keep HZ.out) k hlt
          obtain ⟨hk2, hkq⟩ := HYk.out k hlt
          obtain ⟨b2, o2, rfl, hnr⟩ := na_of (HR.out.keep HZ.out) k hk2
          have HLb : Hid (b2 < w16.heap.size) := lt_of_row HR.out (by omega)
          obtain ⟨s, hs⟩ : ∃ s, s = Y[k] := ⟨_, rfl⟩
          rw [← hs] at hnr hkq
          obtain ⟨t, ht⟩ : ∃ t, t = l[k] := ⟨_, rfl⟩
          rw [← ht] at hnq hkq
          have hix := ixN b1 o1 l.length c k (k : Int) rfl hlt
          have hix2 := ixN b2 o2 l.length c2 k (k : Int) rfl hlt
          have hN := neqN_no s
          have hb2 := bel_box wr (.cells (nc t) 35)
          have HZ2 := bel_tr HZ hb2
          have HQ := Lib.hid (Bx6.new wr t)
          have HS := Lib.hid (hnr.keep hb2)
          have HG : Hid (w16.heap.size ≤ wr.heap.size) := HZ.out.size
          clear hb2 hs ht hnr hk2
          have HHs := Lib.hid (fun w h => D.has_ref dots t.1 b m w h (by omega))
          have HKq := Lib.hid hkq
          clear hkq HZ
          obtain ⟨n0, n1, n2, n3, n4, n5⟩ := hnq
          by_cases hd : t.1 ∈ dots
          · rw [decide_eq_true hd] at HHs
            have HKs : Hid (s = killN t) := HKq.out.trans (if_pos hd)
            clear hd HKq
            go_wp2_with fail
            generalize (wr.alloc (.cells (nc t) 35)) = w20 at *
            generalize wr.heap.size = g16 at *
            refine (HHs.out _ (HY.out.keep HZ2.out)).mono ?_
            rintro e w21 ⟨rfl, hb⟩
            replace HQ := Lib.hid (HQ.out.keep hb)
            replace HS := Lib.hid (HS.out.keep hb)
            replace HZ2 := bel_tr HZ2 hb
            clear hb HHs n0 n1 n2 n3 n4 n5
            have f5 := HQ.out.2 5
            obtain ⟨n0, n1, n2, n3, n4, n5⟩ := HQ.out.1
            go_wp2_with fail
            have HP : Hid (Pq g16 b2 (o2 + k * 6) s s (w21.setCell ⟨g16, 5, none⟩ (.int .i32 0))) := ⟨by rw [HKs.out]; exact nb_kill HQ.out.1, na_gb HS.out (gb_setCell _ _ _ _) (by have := HLb.out; have := HG.out; omega)⟩
            have HZ : Hid (Below w16.heap.size w16 (w21.setCell ⟨g16, 5, none⟩ (.int .i32 0))) := HZ2.out.setCell (p := ⟨g16, 5, none⟩) HG.out _
            clear HQ HS HZ2 n0 n1 n2 n3 n4 n5 f5 hix
            generalize (w21.setCell ⟨g16, 5, none⟩ (.int .i32 0)) = w22 at *
            have hb := (Below.refl w22.heap.size w22).drew
            replace HZ := bel_tr HZ hb
            replace HP := Lib.hid (HP.out.keep hb)
            clear hb
            refine Sch.wp_region_tn (Pq g16 b2 (o2 + k * 6) s s) (.val 0 (.val 1 (.val 2 (.val 3 (.val 4 (.val 5 .done)))))) (by kernel_rfl) (by kernel_rfl) HP.out ?_
            repeat (first
              | (refine Sch.tn_q rfl rfl rfl (fun K hK => ?_); go_big_quiet_op; (first | refine hK _ ?_ | refine ⟨_, fun _ _ => rfl, hK _ ?_⟩); clear hK K)
              | (refine Sch.tn_chk _ _ _ rfl rfl rfl rfl rfl ?_; simp only [Act.put, List.setIfInBounds_toArray, List.set_cons_zero, List.set_cons_succ])
              | (refine Sch.tn_load _ _ _ _ _ rfl rfl rfl rfl (by first | exact Pq.nn | exact Pq.qn) rfl ?_; simp only [Act.put, List.setIfInBounds_toArray, List.set_cons_zero, List.set_cons_succ]))
            refine Sch.tn_n ?_
            generalize w22.drew = w40 at *
            go_wp2_with fail
            go_roundw
            case rel => exact ⟨k + 1, by omega, by go_num, HZ⟩
            case measure => simp [intOf]; omega
          · rw [decide_eq_false hd] at HHs
            have HKs : Hid (s = t) := HKq.out.trans (if_neg hd)
            clear hd HKq
            go_wp2_with fail
            generalize (wr.alloc (.cells (nc t) 35)) = w20 at *
            generalize wr.heap.size = g16 at *
            refine (HHs.out _ (HY.out.keep HZ2.out)).mono ?_
            rintro e w21 ⟨rfl, hb⟩
            replace HQ := Lib.hid (HQ.out.keep hb)
            replace HS := Lib.hid (HS.out.keep hb)
            replace HZ2 := bel_tr HZ2 hb
            clear hb HHs n0 n1 n2 n3 n4 n5
            go_wp2_with fail
            have HP : Hid (Pq g16 b2 (o2 + k * 6) s s w21) := ⟨by rw [HKs.out]; exact HQ.out.1, HS.out⟩
            have HZ := HZ2
            clear HQ HS HZ2 hix
            have hb := (Below.refl w21.heap.size w21).drew
            replace HZ := bel_tr HZ hb
            replace HP := Lib.hid (HP.out.keep hb)
            clear hb
            refine Sch.wp_region_tn (Pq g16 b2 (o2 + k * 6) s s) (.val 0 (.val 1 (.val 2 (.val 3 (.val 4 (.val 5 .done)))))) (by kernel_rfl) (by kernel_rfl) HP.out ?_
            repeat (first
              | (refine Sch.tn_q rfl rfl rfl (fun K hK => ?_); go_big_quiet_op; (first | refine hK _ ?_ | refine ⟨_, fun _ _ => rfl, hK _ ?_⟩); clear hK K)
              | (refine Sch.tn_chk _ _ _ rfl rfl rfl rfl rfl ?_; simp only [Act.put, List.setIfInBounds_toArray, List.set_cons_zero, List.set_cons_succ])
              | (refine Sch.tn_load _ _ _ _ _ rfl rfl rfl rfl (by first | exact Pq.nn | exact Pq.qn) rfl ?_; simp only [Act.put, List.setIfInBounds_toArray, List.set_cons_zero, List.set_cons_succ]))
            refine Sch.tn_n ?_
            generalize w21.drew = w40 at *
            go_wp2_with fail
            go_roundw
            case rel => exact ⟨k + 1, by omega, by go_num, HZ⟩
            case measure => simp [intOf]; omega
        · obtain rfl : k = l.length := by omega
          have hend : ¬ (l.length : Int) < (l.length : Int) := by omega
          replace HB : Hid (Below w.heap.size w wr) := HB.out.trans (HZ.out.mono HB.out.size)
          clear HZ
          go_wp2_with fail
          refine (known_any _).mono ?_
          rintro e w904 ⟨rfl, hb⟩
          replace HB := bel_tr HB hb
          clear hb
          go_wp2_with fail
          go_ret
          exact ⟨rfl, HB.out⟩
    · have hzd : decide (z = 0) = false := decide_eq_false hz
      have hzb : (z == 0) = false := by simp [hz]
      obtain rfl := HKn.out hz
      go_wp2_with fail
      refine (known_any _).mono ?_
      rintro e w905 ⟨rfl, hb⟩
      replace HB := bel_tr HB hb
      clear hb
      go_wp2_with fail
      go_ret
      exact ⟨rfl, HB.out⟩
end Go.Proofs.YtfpfihmihlmobaaGreat.Qs
