/-
  The program's question whether a dot is missing.
-/
import Derived.Test.YtgopkffgljiblaaGreatMEOf
import Derived.Test.YtgopkffgljiblaaGreatMDSet
import Derived.Test.YtgopkffgljiblaaGreatMDText

section
namespace Go.Proofs.YtgopkffgljiblaaGreat.F
set_option linter.unusedVariables false
open Go.RowKit V Go.Sort D

theorem enters_miss : ∀ args w, (callFunc 70 args).run Tryz.prog w = .ok (.enter 70 args) w := enters_of Tryz.func70 (by kernel_rfl) rfl
/-- What the question has in memory: the set of the cloud, and the context. -/
def Ms (w : World) (g h : Nat) (x y z : Value) (xs ms : List Dt) : Prop :=
  w.cell? ⟨g, 0, none⟩ = some z ∧ Bc w h x y ∧ (∃ a n, x = .slice a xs.length n ∧ RowD w a xs) ∧ (∃ a n, z = .slice a ms.length n ∧ RowD w a ms)
theorem Ms.keep {w w' : World} {g h : Nat} {x y z : Value} {xs ms : List Dt} (k : Ms w g h x y z xs ms) (hb : Below w.heap.size w w') : Ms w' g h x y z xs ms := by
  obtain ⟨h1, h2, ⟨a, n, h3, h4⟩, b, m, h5, h6⟩ := k
  exact ⟨(hb.cell (p := ⟨g, 0, none⟩) (lt_of_cell h1)).trans h1, h2.keep hb, ⟨a, n, h3, h4.keep hb⟩, b, m, h5, h6.keep hb⟩

set_option maxRecDepth 100000 in
set_option maxHeartbeats 1000000 in
theorem miss_any (xs ms ys : List Dt) (d : Dt) (x y z : Value) (g h : Nat) (w : World) (hM : Ms w g h x y z xs ms) (hs : Srt ms) (hm : ∀ x, x ∈ ms ↔ x ∈ ys) (hlx : xs.length ≤ 1000000) (hlm : ms.length ≤ 1000000) :
    Calls Tryz.prog 70 #[dv d, .pointer (some ⟨g, 0, none⟩), .pointer (some ⟨h, 0, none⟩)] w fun e w' => e = .returned (.bool (!hasC (xs, ys) d)) ∧ Below w.heap.size w w' := by
  have HE : Hid ((!hasC (xs, ys) d) = (!validR d || (!decide (d ∈ ms) && !E.hasV xs d))) := by
    show _ = _
    have e : decide (d ∈ ys) = decide (d ∈ ms) := by rw [decide_eq_decide]; exact (hm d).symm
    show (!(validR d && (E.hasV xs d || decide (d ∈ ys)))) = _
    rw [e]
    rcases validR d <;> rcases E.hasV xs d <;> rcases decide (d ∈ ms) <;> rfl
  have HB := Lib.hid (bel_box w (.cells #[.int .i64 d.1, .int .i64 d.2] 48))
  have HM := Lib.hid (hM.keep HB.out)
  have HK : Hid (Bd w.heap.size d.1 d.2 (w.alloc (.cells #[.int .i64 d.1, .int .i64 d.2] 48))) := by refine ⟨?_, ?_⟩ <;> go_simp
  have H1 := Lib.hid (fun a c w h => search_any ms d a c w hs h hlm)
  have H2 := Lib.hid (fun w => E.valid_lays d w)
  have H3 := Lib.hid (fun a n w h => E.has_any xs d a n w h (by omega))
  clear hM hs hm hlx hlm
  generalize (!hasC (xs, ys) d) = R at *
  generalize E.hasV xs d = v1 at *
  generalize validR d = v2 at *
  generalize decide (d ∈ ms) = v3 at *
  obtain ⟨d1, d2⟩ := d
  simp only at HK
  obtain ⟨k0, -, -, a, n, rfl, hr⟩ := HM.out
  have k1 := HK.out.1
  have k2 := HK.out.2
  go_enter Tryz.func70, Tryz.ntmps70
  go_wp2_with fail
  generalize w.alloc (.cells #[.int .i64 d1, .int .i64 d2] 48) = w1 at *
  refine (H1.out _ _ _ hr).mono ?_
  rintro e w2 ⟨i, rfl, hb⟩
  replace HM := Lib.hid (HM.out.keep hb)
  replace HK := Lib.hid (HK.out.keep hb)
  replace HB := bel_tr HB hb
  clear hb hr k0 k1 k2 H1
  have k1 := HK.out.1
  have k2 := HK.out.2
  go_wp2_with fail
  refine (H2.out _).mono ?_
  rintro e w3 ⟨rfl, hl⟩
  have hb := hl.bel
  replace HM := Lib.hid (HM.out.keep hb)
  replace HK := Lib.hid (HK.out.keep hb)
  replace HB := bel_tr HB hb
  clear hl hb k1 k2 H2
  rcases v2 with _ | _
  · have hE := HE.out
    subst hE
    clear HE
    go_wp2_with fail
    go_ret
    exact ⟨rfl, HB.out⟩
  · rcases v3 with _ | _
    · have k1 := HK.out.1
      have k2 := HK.out.2
      obtain ⟨-, ⟨k3, k4⟩, ⟨b, m, rfl, hr⟩, -⟩ := HM.out
      go_wp2_with fail
      refine (H3.out _ _ _ hr).mono ?_
      rintro e w4 ⟨rfl, hl⟩
      replace HB := bel_tr HB hl.bel
      clear hl hr k1 k2 k3 k4 H3
      have hE := HE.out
      simp at hE
      subst hE
      clear HE
      go_wp2_with fail
      go_ret
      exact ⟨rfl, HB.out⟩
    · have hE := HE.out
      simp at hE
      subst hE
      clear HE
      go_wp2_with fail
      go_ret
      exact ⟨rfl, HB.out⟩

set_option maxRecDepth 100000 in
set_option maxHeartbeats 1000000 in
/-- missingFrom: a question that may be asked of any dot, wherever it is asked behind. -/
theorem missingFrom_any (xs ys : List Dt) (a b : Option Addr) (n m : Nat) (w : World) (hx : RowD w a xs) (hy : RowD w b ys) (hlx : xs.length ≤ 1000000) (hly : ys.length ≤ 1000000) :
    Calls Tryz.prog 47 #[cv (.slice a xs.length n) (.slice b ys.length m)] w fun e w' => ∃ g h, e = .returned (.func (.func 70) #[] #[.pointer (some ⟨g, 0, none⟩), .pointer (some ⟨h, 0, none⟩)]) ∧
      (∀ l, Ask w' 70 #[.pointer (some ⟨g, 0, none⟩), .pointer (some ⟨h, 0, none⟩)] l (fun d => !hasC (xs, ys) d)) ∧ Below w.heap.size w w' := by
  have HS := Lib.hid (fun w h => set_any ys b m w h hly)
  have HSl := Lib.hid (set_len ys)
  have HB := Lib.hid (bel_box w (cbox (.slice a xs.length n) (.slice b ys.length m)))
  have HT := Lib.hid (two_new w (.slice a xs.length n) (.slice b ys.length m))
  have HX := Lib.hid (hx.keep HB.out)
  have HY := Lib.hid (hy.keep HB.out)
  have HMi := Lib.hid (fun x y z g h w d hM => miss_any xs (setR ys) ys d x y z g h w hM (srt_set ys) (fun x => mem_set) hlx (Nat.le_trans (set_len ys) hly))
  clear hx hy hlx hly
  generalize setR ys = ms at *
  go_enter Tryz.func47, Tryz.ntmps47
  go_wp2_with fail
  generalize w.alloc (cbox (.slice a xs.length n) (.slice b ys.length m)) = w1 at *
  have k1 := HT.out.2
  go_wp2_with fail
  refine (HS.out _ HY.out).mono ?_
  rintro e w2 ⟨v, rfl, hsv, hb⟩
  obtain ⟨a2, c2, rfl, -, hr⟩ := hsv.row
  replace HT := Lib.hid (HT.out.keep hb)
  replace HX := Lib.hid (HX.out.keep hb)
  replace HB := bel_tr HB hb
  have hb2 := bel_box w2 (.cells #[.slice a2 ms.length c2] 22)
  have HB2 := bel_tr HB hb2
  have HM : Hid (Ms (w2.alloc (.cells #[.slice a2 ms.length c2] 22)) w2.heap.size w.heap.size (.slice a xs.length n) (.slice b ys.length m) (.slice a2 ms.length c2) xs ms) :=
    ⟨by go_simp, HT.out.keep hb2, ⟨_, _, rfl, HX.out.keep hb2⟩, _, _, rfl, hr.keep hb2⟩
  clear hsv hb hr hb2 HS k1
  go_wp2_with fail
  go_ret
  exact ⟨_, _, rfl, fun l W hW d _ => HMi.out _ _ _ _ _ W d (HM.out.keep hW), HB2.out⟩
end Go.Proofs.YtgopkffgljiblaaGreat.F
end

/-
  Add, Union, Within, Of, Size, as the program does them.
-/
section
/-
  The program's Compact, Union, Of and Add.
-/
section
namespace Go.Proofs.YtgopkffgljiblaaGreat.F
set_option linter.unusedVariables false
open Go.RowKit V Go.Sort D
open E (SV SV.of_od)

theorem load_ctx {w : World} {g : Nat} {x y : Value} (h : Bc w g x y) : (Instr.loadAt 25 (.pointer (some ⟨g, 0, none⟩))).run Tryz.prog w = .ok (cv x y) w := by
  have h0 := h.1
  have h1 := h.2
  go_simp
theorem Wc.keep {w w' : World} {g : Nat} (h : Wc w g) (hb : Below w.heap.size w w') : Wc w' g := fun i hi => by
  obtain ⟨⟨v, hv⟩, hf⟩ := h i hi
  have hl := lt_of_cell hv
  exact ⟨⟨v, (hb.cell (p := ⟨g, i, none⟩) hl).trans hv⟩, (hb.frozen (p := ⟨g, i, none⟩) hl).trans hf⟩
theorem Wc.lt {w : World} {g : Nat} (h : Wc w g) : g < w.heap.size := by
  obtain ⟨⟨v, hv⟩, -⟩ := h 0 (by omega)
  exact lt_of_cell hv
theorem wc_new (w : World) : Wc (w.alloc (cbox (.slice none 0 0) (.slice none 0 0))) w.heap.size := by
  intro i hi
  rcases i with _ | _ | i
  · exact ⟨⟨_, by go_simp; rfl⟩, by go_simp⟩
  · exact ⟨⟨_, by go_simp; rfl⟩, by go_simp⟩
  · omega
theorem below_put {B : Nat} {a w : World} {g : Nat} {x y : Value} (h : Below B a w) (hg : B ≤ g) : Below B a ((w.setCell ⟨g, 0, none⟩ x).setCell ⟨g, 1, none⟩ y) := (h.setCell (p := ⟨g, 0, none⟩) hg _).setCell (p := ⟨g, 1, none⟩) hg _
/-- A context that a call has made itself, behind a place. -/
def Ov (w : World) (base : Nat) (x y : Value) (c : Ct) : Prop := OD w base E x c.1 ∧ OD w base E y c.2
theorem Ov.below {w w' : World} {base : Nat} {x y : Value} {c : Ct} (h : Ov w base x y c) (hb : Below w.heap.size w w') : Ov w' base x y c := ⟨h.1.below hb, h.2.below hb⟩
theorem Ov.put {w : World} {base : Nat} {x y u v : Value} {c : Ct} (h : Ov w base x y c) {g : Nat} (hg : g < base) : Ov ((w.setCell ⟨g, 0, none⟩ u).setCell ⟨g, 1, none⟩ v) base x y c :=
  ⟨OD.set (OD.set h.1 g 0 u hg) g 1 v hg, OD.set (OD.set h.2 g 0 u hg) g 1 v hg⟩
theorem Ov.mono {w : World} {base base' : Nat} {x y : Value} {c : Ct} (h : Ov w base x y c) (hb : base' ≤ base) : Ov w base' x y c :=
  ⟨h.1.mono fun k hk => Nat.le_trans hb (h.1.lt k hk).1, h.2.mono fun k hk => Nat.le_trans hb (h.2.lt k hk).1⟩
theorem Ov.nil (w : World) (base : Nat) : Ov w base (.slice none 0 0) (.slice none 0 0) ([], []) := ⟨OD.nil _ _ _, OD.nil _ _ _⟩
theorem Ov.shape {w : World} {base : Nat} {x y : Value} {c : Ct} (h : Ov w base x y c) : ∃ a n b m, x = .slice a c.1.length n ∧ y = .slice b c.2.length m := by
  obtain ⟨a, n, e, -⟩ := h.1.row
  obtain ⟨b, m, e2, -⟩ := h.2.row
  exact ⟨a, n, b, m, e, e2⟩

set_option maxRecDepth 100000 in
set_option maxHeartbeats 1000000 in
theorem compact_any (xs ys : List Dt) (a b : Option Addr) (n m : Nat) (w : World) (hx : RowD w a xs) (hy : RowD w b ys) (hna : a = none → n = 0) (hlx : xs.length ≤ 900000) (hly : ys.length ≤ 900000) :
    Calls Tryz.prog 102 #[cv (.slice a xs.length n) (.slice b ys.length m)] w fun e w' => ∃ x y, e = .returned (.tuple #[cv x y, .int .i64 (compB (xs, ys)).2]) ∧ Ov w' w.heap.size x y (compB (xs, ys)).1 ∧ Below w.heap.size w w' := by
  have HV := Lib.hid (fun w h1 h2 => valid_any xs ys a b n m w h1 h2 (by omega) (by omega))
  have HC := Lib.hid (fun w hv h1 h2 => compacted_any xs ys a b n m w ((valid_vc (xs, ys)).1 hv) h1 h2 hna hlx hly)
  have HN : Hid (validC (xs, ys) = false → compB (xs, ys) = (([], []), 2)) := fun h => by unfold compB; rw [h]; rfl
  have HY : Hid (validC (xs, ys) = true → compB (xs, ys) = (compC (xs, ys), 0)) := fun h => by unfold compB; rw [if_pos h]
  have HT := Lib.hid (two_new w (.slice a xs.length n) (.slice b ys.length m))
  have HB := Lib.hid (bel_box w (cbox (.slice a xs.length n) (.slice b ys.length m)))
  have hb := bel_box (w.alloc (cbox (.slice a xs.length n) (.slice b ys.length m))) (cbox (.slice none 0 0) (.slice none 0 0))
  have HW := Lib.hid (wc_new (w.alloc (cbox (.slice a xs.length n) (.slice b ys.length m))))
  have hsz : (w.alloc (cbox (.slice a xs.length n) (.slice b ys.length m))).heap.size = w.heap.size + 1 := by simp
  rw [hsz] at HW
  replace HT := Lib.hid (HT.out.keep hb)
  replace HB := bel_tr HB hb
  have HX := Lib.hid (hx.keep HB.out)
  have HYr := Lib.hid (hy.keep HB.out)
  clear hx hy hna hlx hly hsz hb
  generalize compB (xs, ys) = R at *
  generalize compC (xs, ys) = C at *
  have k0 := HT.out.1
  have k1 := HT.out.2
  go_enter Tryz.func102, Tryz.ntmps102
  go_wp2_with fail
  generalize (w.alloc (cbox (.slice a xs.length n) (.slice b ys.length m))).alloc (cbox (.slice none 0 0) (.slice none 0 0)) = w1 at *
  refine (HV.out _ HX.out HYr.out).mono ?_
  rintro e w2 ⟨rfl, hb⟩
  replace HT := Lib.hid (HT.out.keep hb)
  replace HW := Lib.hid (HW.out.keep hb)
  replace HX := Lib.hid (HX.out.keep hb)
  replace HYr := Lib.hid (HYr.out.keep hb)
  replace HB := bel_tr HB hb
  clear hb k0 k1 HV
  rcases hv : validC (xs, ys) with _ | _
  · have hR := HN.out hv
    subst hR
    clear hv HN HY HC
    obtain ⟨⟨u0, r0⟩, r1⟩ := HW.out 0 (by omega)
    obtain ⟨⟨u1, r2⟩, r3⟩ := HW.out 1 (by omega)
    have HP := Lib.hid (put_two (x := .slice none 0 0) (y := .slice none 0 0) HW.out)
    have HB2 := Lib.hid (below_put (g := w.heap.size + 1) (x := .slice none 0 0) (y := .slice none 0 0) HB.out (by omega))
    go_wp2_with fail
    generalize (w2.setCell ⟨w.heap.size + 1, 0, none⟩ (.slice none 0 0)).setCell ⟨w.heap.size + 1, 1, none⟩ (.slice none 0 0) = W at *
    have q0 := HP.out.1
    have q1 := HP.out.2
    (try simp only [Exit.inBlock, Exit.then])
    refine bodyPost_ret (v := .tuple #[cv (.slice none 0 0) (.slice none 0 0), .int .i64 2]) (by rw [results_cell_tmp (fn := Tryz.f102) (p := 2) (u := 3) (ty := 25) rfl]; go_simp) rfl ?_
    exact ⟨_, _, rfl, Ov.nil _ _, HB2.out⟩
  · have hR := HY.out hv
    subst hR
    have HC2 := Lib.hid (HC.out w2 hv HX.out HYr.out)
    clear hv HN HY HC
    have k0 := HT.out.1
    have k1 := HT.out.2
    go_wp2_with fail
    refine HC2.out.mono ?_
    rintro e w3 ⟨x, y, rfl, ho1, ho2, hb⟩
    have HO : Hid (Ov w3 w2.heap.size x y C) := ⟨ho1, ho2⟩
    have hl := HW.out.lt
    replace HW := Lib.hid (HW.out.keep hb)
    have HB3 := bel_tr HB hb
    obtain ⟨⟨u0, r0⟩, r1⟩ := HW.out 0 (by omega)
    obtain ⟨⟨u1, r2⟩, r3⟩ := HW.out 1 (by omega)
    obtain ⟨a4, n4, b4, m4, rfl, rfl⟩ := HO.out.shape
    have HP := Lib.hid (put_two (x := .slice a4 C.1.length n4) (y := .slice b4 C.2.length m4) HW.out)
    have HO2 := Lib.hid ((HO.out.put (g := w.heap.size + 1) (u := .slice a4 C.1.length n4) (v := .slice b4 C.2.length m4) hl).mono HB.out.size)
    have HB4 := Lib.hid (below_put (g := w.heap.size + 1) (x := .slice a4 C.1.length n4) (y := .slice b4 C.2.length m4) HB3.out (by omega))
    clear ho1 ho2 hb HC2 k0 k1 hl HO
    go_wp2_with fail
    generalize (w3.setCell ⟨w.heap.size + 1, 0, none⟩ (.slice a4 C.1.length n4)).setCell ⟨w.heap.size + 1, 1, none⟩ (.slice b4 C.2.length m4) = W at *
    have q0 := HP.out.1
    have q1 := HP.out.2
    (try simp only [Exit.inBlock, Exit.then])
    refine bodyPost_ret (v := .tuple #[cv (.slice a4 C.1.length n4) (.slice b4 C.2.length m4), .int .i64 0]) (by rw [results_cell_tmp (fn := Tryz.f102) (p := 2) (u := 3) (ty := 25) rfl]; go_simp) rfl ?_
    exact ⟨_, _, rfl, HO2.out, HB4.out⟩

set_option maxRecDepth 100000 in
set_option maxHeartbeats 1000000 in
theorem union_any6 (xs ys us vs : List Dt) (a b p q : Option Addr) (n m j k : Nat) (w : World) (hx : RowD w a xs) (hy : RowD w b ys) (hu : RowD w p us) (hv : RowD w q vs) (hna : a = none → n = 0) (hnb : b = none → m = 0) (hnp : p = none → j = 0) (hnq : q = none → k = 0)
    (hlx : xs.length ≤ 400000) (hly : ys.length ≤ 400000) (hlu : us.length ≤ 400000) (hlv : vs.length ≤ 400000) :
    Calls Tryz.prog 55 #[cv (.slice a xs.length n) (.slice b ys.length m), cv (.slice p us.length j) (.slice q vs.length k)] w fun e w' => ∃ x y, e = .returned (.tuple #[cv x y, .int .i64 (unionB (xs, ys) (us, vs)).2]) ∧ Ov w' w.heap.size x y (unionB (xs, ys) (us, vs)).1 ∧ Below w.heap.size w w' := by
  have HV1 := Lib.hid (fun w h1 h2 => valid_any xs ys a b n m w h1 h2 (by omega) (by omega))
  have HV2 := Lib.hid (fun w h1 h2 => valid_any us vs p q j k w h1 h2 (by omega) (by omega))
  have HM := Lib.hid (fun w h1 h2 => E.merge_any xs us a p n j w h1 h2 hna hnp (by omega) (by omega))
  have HU := Lib.hid (fun w h1 h2 => union_any ys vs b q m k w h1 h2 hnb hnq hly hlv)
  have HMe : Hid (validC (xs, ys) = true → validC (us, vs) = true → E.mergeB xs us = (E.mergeR xs us, 0)) := fun h1 h2 => by
    unfold E.mergeB
    rw [if_pos ⟨(E.valid_vd _).2 ((valid_vc _).1 h1).1, (E.valid_vd _).2 ((valid_vc _).1 h2).1⟩]
  have HMl : Hid (validC (xs, ys) = true → validC (us, vs) = true → (E.mergeR xs us).length ≤ 64) := fun h1 h2 => E.vd_len (E.merge_vd ((valid_vc _).1 h1).1 ((valid_vc _).1 h2).1)
  have HVc : Hid (validC (xs, ys) = true → validC (us, vs) = true → Vc (E.mergeR xs us, unionR ys vs)) := fun h1 h2 => union_pre ((valid_vc _).1 h1) ((valid_vc _).1 h2)
  have HUl : Hid ((unionR ys vs).length ≤ 800000) := by show _ ≤ _; have := union_len ys vs; omega
  have HC := Lib.hid (fun a b n m w hc (hl : (E.mergeR xs us).length ≤ 64) h1 h2 h3 => compacted_any (E.mergeR xs us) (unionR ys vs) a b n m w hc h1 h2 h3 (Nat.le_trans hl (by omega)) (Nat.le_trans HUl.out (by omega)))
  have HN : Hid (¬ (validC (xs, ys) = true ∧ validC (us, vs) = true) → unionB (xs, ys) (us, vs) = (([], []), 2)) := fun h => by unfold unionB; rw [if_neg h]
  have HYs : Hid (validC (xs, ys) = true → validC (us, vs) = true → unionB (xs, ys) (us, vs) = (compC (E.mergeR xs us, unionR ys vs), 0)) := fun h1 h2 => by unfold unionB; rw [if_pos ⟨h1, h2⟩]; rfl
  have HT := Lib.hid (two_new w (.slice a xs.length n) (.slice b ys.length m))
  have HB := Lib.hid (bel_box w (cbox (.slice a xs.length n) (.slice b ys.length m)))
  have hsz : (w.alloc (cbox (.slice a xs.length n) (.slice b ys.length m))).heap.size = w.heap.size + 1 := by simp
  have hb := bel_box (w.alloc (cbox (.slice a xs.length n) (.slice b ys.length m))) (cbox (.slice p us.length j) (.slice q vs.length k))
  have HS := Lib.hid (two_new (w.alloc (cbox (.slice a xs.length n) (.slice b ys.length m))) (.slice p us.length j) (.slice q vs.length k))
  rw [hsz] at HS
  replace HT := Lib.hid (HT.out.keep hb)
  replace HB := bel_tr HB hb
  have hsz2 : ((w.alloc (cbox (.slice a xs.length n) (.slice b ys.length m))).alloc (cbox (.slice p us.length j) (.slice q vs.length k))).heap.size = w.heap.size + 1 + 1 := by simp
  have hb2 := bel_box ((w.alloc (cbox (.slice a xs.length n) (.slice b ys.length m))).alloc (cbox (.slice p us.length j) (.slice q vs.length k))) (cbox (.slice none 0 0) (.slice none 0 0))
  have HW := Lib.hid (wc_new ((w.alloc (cbox (.slice a xs.length n) (.slice b ys.length m))).alloc (cbox (.slice p us.length j) (.slice q vs.length k))))
  rw [hsz2] at HW
  replace HT := Lib.hid (HT.out.keep hb2)
  replace HS := Lib.hid (HS.out.keep hb2)
  replace HB := bel_tr HB hb2
  have HX := Lib.hid (hx.keep HB.out)
  have HYr := Lib.hid (hy.keep HB.out)
  have HUr := Lib.hid (hu.keep HB.out)
  have HVr := Lib.hid (hv.keep HB.out)
  clear hx hy hu hv hna hnb hnp hnq hlx hly hlu hlv hsz hb hsz2 hb2
  generalize unionB (xs, ys) (us, vs) = R at *
  generalize compC (E.mergeR xs us, unionR ys vs) = C at *
  generalize unionR ys vs = U at *
  have k0 := HT.out.1
  have k1 := HT.out.2
  have k2 := HS.out.1
  have k3 := HS.out.2
  go_enter Tryz.func55, Tryz.ntmps55
  go_wp2_with fail
  generalize ((w.alloc (cbox (.slice a xs.length n) (.slice b ys.length m))).alloc (cbox (.slice p us.length j) (.slice q vs.length k))).alloc (cbox (.slice none 0 0) (.slice none 0 0)) = w1 at *
  refine (HV1.out _ HX.out HYr.out).mono ?_
  rintro e w2 ⟨rfl, hb⟩
  replace HT := Lib.hid (HT.out.keep hb)
  replace HS := Lib.hid (HS.out.keep hb)
  replace HW := Lib.hid (HW.out.keep hb)
  replace HX := Lib.hid (HX.out.keep hb)
  replace HYr := Lib.hid (HYr.out.keep hb)
  replace HUr := Lib.hid (HUr.out.keep hb)
  replace HVr := Lib.hid (HVr.out.keep hb)
  replace HB := bel_tr HB hb
  clear hb k0 k1 k2 k3 HV1
  rcases hv1 : validC (xs, ys) with _ | _
  · have hR := HN.out (by rw [hv1]; simp)
    subst hR
    clear hv1 HN HYs HC HV2 HM HU HMe HMl HVc
    obtain ⟨⟨u0, r0⟩, r1⟩ := HW.out 0 (by omega)
    obtain ⟨⟨u1, r2⟩, r3⟩ := HW.out 1 (by omega)
    have HP := Lib.hid (put_two (x := .slice none 0 0) (y := .slice none 0 0) HW.out)
    have HB2 := Lib.hid (below_put (g := w.heap.size + 1 + 1) (x := .slice none 0 0) (y := .slice none 0 0) HB.out (by omega))
    go_wp2_with fail
    generalize (World.setCell w2 ⟨w.heap.size + 1 + 1, 0, none⟩ (.slice none 0 0)).setCell ⟨w.heap.size + 1 + 1, 1, none⟩ (.slice none 0 0) = W at *
    have q0 := HP.out.1
    have q1 := HP.out.2
    (try simp only [Exit.inBlock, Exit.then])
    refine bodyPost_ret (v := .tuple #[cv (.slice none 0 0) (.slice none 0 0), .int .i64 2]) (by rw [results_cell_tmp (fn := Tryz.f55) (p := 4) (u := 5) (ty := 25) rfl]; go_simp) rfl ?_
    exact ⟨_, _, rfl, Ov.nil _ _, HB2.out⟩
  have k0 := HT.out.1
  have k1 := HT.out.2
  have k2 := HS.out.1
  have k3 := HS.out.2
  go_wp2_with fail
  refine (HV2.out _ HUr.out HVr.out).mono ?_
  rintro e w3 ⟨rfl, hb⟩
  replace HT := Lib.hid (HT.out.keep hb)
  replace HS := Lib.hid (HS.out.keep hb)
  replace HW := Lib.hid (HW.out.keep hb)
  replace HX := Lib.hid (HX.out.keep hb)
  replace HYr := Lib.hid (HYr.out.keep hb)
  replace HUr := Lib.hid (HUr.out.keep hb)
  replace HVr := Lib.hid (HVr.out.keep hb)
  replace HB := bel_tr HB hb
  clear hb k0 k1 k2 k3 HV2
  rcases hv2 : validC (us, vs) with _ | _
  · have hR := HN.out (by rw [hv2]; simp)
    subst hR
    clear hv1 hv2 HN HYs HC HM HU HMe HMl HVc
    obtain ⟨⟨u0, r0⟩, r1⟩ := HW.out 0 (by omega)
    obtain ⟨⟨u1, r2⟩, r3⟩ := HW.out 1 (by omega)
    have HP := Lib.hid (put_two (x := .slice none 0 0) (y := .slice none 0 0) HW.out)
    have HB2 := Lib.hid (below_put (g := w.heap.size + 1 + 1) (x := .slice none 0 0) (y := .slice none 0 0) HB.out (by omega))
    go_wp2_with fail
    generalize (World.setCell w3 ⟨w.heap.size + 1 + 1, 0, none⟩ (.slice none 0 0)).setCell ⟨w.heap.size + 1 + 1, 1, none⟩ (.slice none 0 0) = W at *
    have q0 := HP.out.1
    have q1 := HP.out.2
    (try simp only [Exit.inBlock, Exit.then])
    refine bodyPost_ret (v := .tuple #[cv (.slice none 0 0) (.slice none 0 0), .int .i64 2]) (by rw [results_cell_tmp (fn := Tryz.f55) (p := 4) (u := 5) (ty := 25) rfl]; go_simp) rfl ?_
    exact ⟨_, _, rfl, Ov.nil _ _, HB2.out⟩
  have hR := HYs.out hv1 hv2
  subst hR
  have hMe := HMe.out hv1 hv2
  rw [hMe] at HM
  have HMl2 := Lib.hid (HMl.out hv1 hv2)
  have HVc2 := Lib.hid (HVc.out hv1 hv2)
  clear HN HYs HMe HMl HVc hv1 hv2 hMe
  generalize E.mergeR xs us = M at *
  have k0 := HT.out.1
  have k1 := HT.out.2
  have k2 := HS.out.1
  have k3 := HS.out.2
  go_wp2_with fail
  refine (HM.out _ HX.out HUr.out).mono ?_
  rintro e w4 ⟨v4, rfl, ho, hb⟩
  have HO4 := Lib.hid (show SV w4 v4 M from SV.of_od ho)
  replace HT := Lib.hid (HT.out.keep hb)
  replace HS := Lib.hid (HS.out.keep hb)
  replace HW := Lib.hid (HW.out.keep hb)
  replace HX := Lib.hid (HX.out.keep hb)
  replace HYr := Lib.hid (HYr.out.keep hb)
  replace HUr := Lib.hid (HUr.out.keep hb)
  replace HVr := Lib.hid (HVr.out.keep hb)
  replace HB := bel_tr HB hb
  clear ho hb k0 k1 k2 k3 HM
  have k0 := HT.out.1
  have k1 := HT.out.2
  have k2 := HS.out.1
  have k3 := HS.out.2
  go_wp2_with fail
  refine (HU.out _ HYr.out HVr.out).mono ?_
  rintro e w5 ⟨v5, rfl, ho, hb⟩
  obtain ⟨a5, c5, rfl, hn5, hr5⟩ := ho.row
  have HN5 := Lib.hid hn5
  have HR5 := Lib.hid hr5
  replace HO4 := Lib.hid (HO4.out.keep hb)
  replace HT := Lib.hid (HT.out.keep hb)
  replace HS := Lib.hid (HS.out.keep hb)
  replace HW := Lib.hid (HW.out.keep hb)
  replace HX := Lib.hid (HX.out.keep hb)
  replace HYr := Lib.hid (HYr.out.keep hb)
  replace HUr := Lib.hid (HUr.out.keep hb)
  replace HVr := Lib.hid (HVr.out.keep hb)
  replace HB := bel_tr HB hb
  clear ho hb k0 k1 k2 k3 hn5 hr5 HU
  obtain ⟨a4, c4, rfl, hr4, hn4, -⟩ := HO4.out
  have HR4 := Lib.hid hr4
  have HN4 := Lib.hid hn4
  clear hr4 hn4
  have HC2 := Lib.hid (HC.out a4 a5 c4 c5 w5 HVc2.out HMl2.out HR4.out HR5.out HN4.out)
  clear HC
  have hl := HW.out.lt
  go_wp2_with fail
  refine HC2.out.mono ?_
  rintro e w6 ⟨x, y, rfl, ho1, ho2, hb⟩
  have HO : Hid (Ov w6 w5.heap.size x y C) := ⟨ho1, ho2⟩
  have HBs := Lib.hid HB.out.size
  replace HW := Lib.hid (HW.out.keep hb)
  have HB3 := bel_tr HB hb
  obtain ⟨⟨u0, r0⟩, r1⟩ := HW.out 0 (by omega)
  obtain ⟨⟨u1, r2⟩, r3⟩ := HW.out 1 (by omega)
  obtain ⟨a6, n6, b6, m6, rfl, rfl⟩ := HO.out.shape
  have HP := Lib.hid (put_two (x := .slice a6 C.1.length n6) (y := .slice b6 C.2.length m6) HW.out)
  have HO2 := Lib.hid ((HO.out.put (g := w.heap.size + 1 + 1) (u := .slice a6 C.1.length n6) (v := .slice b6 C.2.length m6) hl).mono HBs.out)
  have HB4 := Lib.hid (below_put (g := w.heap.size + 1 + 1) (x := .slice a6 C.1.length n6) (y := .slice b6 C.2.length m6) HB3.out (by omega))
  clear ho1 ho2 hb HC2 hl HO
  go_wp2_with fail
  generalize (w6.setCell ⟨w.heap.size + 1 + 1, 0, none⟩ (.slice a6 C.1.length n6)).setCell ⟨w.heap.size + 1 + 1, 1, none⟩ (.slice b6 C.2.length m6) = W at *
  have q0 := HP.out.1
  have q1 := HP.out.2
  (try simp only [Exit.inBlock, Exit.then])
  refine bodyPost_ret (v := .tuple #[cv (.slice a6 C.1.length n6) (.slice b6 C.2.length m6), .int .i64 0]) (by rw [results_cell_tmp (fn := Tryz.f55) (p := 4) (u := 5) (ty := 25) rfl]; go_simp) rfl ?_
  exact ⟨_, _, rfl, HO2.out, HB4.out⟩
end Go.Proofs.YtgopkffgljiblaaGreat.F
end

/-
  The program's Of and Add.
-/
section
namespace Go.Proofs.YtgopkffgljiblaaGreat.F
set_option linter.unusedVariables false
open Go.RowKit V Go.Sort D
open E (SV SV.of_od)

set_option maxRecDepth 100000 in
set_option maxHeartbeats 1000000 in
theorem of_any6 (l : List Dt) (a : Option Addr) (c : Nat) (w : World) (hx : RowD w a l) (hlx : l.length ≤ 400000) :
    Calls Tryz.prog 94 #[.slice a l.length c] w fun e w' => ∃ x y, e = .returned (.tuple #[cv x y, .int .i64 (madeB l).2]) ∧ Ov w' w.heap.size x y (madeB l).1 ∧ Below w.heap.size w w' := by
  have HS := Lib.hid (fun w h => set_any l a c w h (by omega))
  have HSl := Lib.hid (Nat.le_trans (set_len l) hlx)
  have HC := Lib.hid (fun b m w h => compact_any [] (setR l) none b 0 m w (.inl rfl) h (fun _ => rfl) (by simp) (Nat.le_trans (set_len l) (by omega)))
  have HR : Hid (compB ([], setR l) = madeB l) := rfl
  rw [HR.out] at HC
  have HW := Lib.hid (wc_new w)
  have HB := Lib.hid (bel_box w (cbox (.slice none 0 0) (.slice none 0 0)))
  have HX := Lib.hid (hx.keep HB.out)
  clear hx hlx HR
  generalize madeB l = R at *
  generalize setR l = s at *
  go_enter Tryz.func94, Tryz.ntmps94
  go_wp2_with fail
  generalize w.alloc (cbox (.slice none 0 0) (.slice none 0 0)) = w1 at *
  refine (HS.out _ HX.out).mono ?_
  rintro e w2 ⟨v2, rfl, hsv, hb⟩
  obtain ⟨a2, c2, rfl, -, hr⟩ := hsv.row
  replace HW := Lib.hid (HW.out.keep hb)
  replace HB := bel_tr HB hb
  have HC2 := Lib.hid (HC.out a2 c2 w2 hr)
  have hl := HW.out.lt
  clear hsv hb hr HS HC
  go_wp2_with fail
  refine HC2.out.mono ?_
  rintro e w3 ⟨x, y, rfl, ho, hb⟩
  have HO := Lib.hid ho
  have HBs := Lib.hid HB.out.size
  replace HW := Lib.hid (HW.out.keep hb)
  have HB3 := bel_tr HB hb
  obtain ⟨⟨u0, r0⟩, r1⟩ := HW.out 0 (by omega)
  obtain ⟨⟨u1, r2⟩, r3⟩ := HW.out 1 (by omega)
  obtain ⟨a6, n6, b6, m6, rfl, rfl⟩ := HO.out.shape
  have HP := Lib.hid (put_two (x := .slice a6 R.1.1.length n6) (y := .slice b6 R.1.2.length m6) HW.out)
  have HO2 := Lib.hid ((HO.out.put (g := w.heap.size) (u := .slice a6 R.1.1.length n6) (v := .slice b6 R.1.2.length m6) hl).mono HBs.out)
  have HB4 := Lib.hid (below_put (g := w.heap.size) (x := .slice a6 R.1.1.length n6) (y := .slice b6 R.1.2.length m6) HB3.out (Nat.le_refl _))
  clear ho hb HC2 hl HO
  go_wp2_with fail
  generalize (w3.setCell ⟨w.heap.size, 0, none⟩ (.slice a6 R.1.1.length n6)).setCell ⟨w.heap.size, 1, none⟩ (.slice b6 R.1.2.length m6) = W at *
  have q0 := HP.out.1
  have q1 := HP.out.2
  (try simp only [Exit.inBlock, Exit.then])
  refine bodyPost_ret (v := .tuple #[cv (.slice a6 R.1.1.length n6) (.slice b6 R.1.2.length m6), .int .i64 R.2]) (by rw [results_cell_tmp (fn := Tryz.f94) (p := 2) (u := 3) (ty := 25) rfl]; go_simp) rfl ?_
  exact ⟨_, _, rfl, HO2.out, HB4.out⟩

/-- A box of two slices, as a class of worlds. -/
def Sb (g : Nat) (x y : Value) (w : World) : Prop := Bc w g x y
theorem Sb.l {g : Nat} {x y : Value} : ∀ w, Sb g x y w → (Instr.loadAt 25 (.pointer (some ⟨g, 0, none⟩))).run Tryz.prog w = .ok (cv x y) w := fun w h => load_ctx h
theorem load_v {w : World} {g i : Nat} {z : Value} (h : w.cell? ⟨g, i, none⟩ = some z) : (Instr.loadAt 23 (.pointer (some ⟨g, i, none⟩))).run Tryz.prog w = .ok z w := by
  go_simp
theorem load_d {w : World} {g i : Nat} {z : Value} (h : w.cell? ⟨g, i, none⟩ = some z) : (Instr.loadAt 22 (.pointer (some ⟨g, i, none⟩))).run Tryz.prog w = .ok z w := by
  go_simp
theorem Sb.l0 {g : Nat} {x y : Value} : ∀ w, Sb g x y w → (Instr.loadAt 23 (.pointer (some ⟨g, 0, none⟩))).run Tryz.prog w = .ok x w := fun w h => load_v h.1
theorem Sb.l1 {g : Nat} {x y : Value} : ∀ w, Sb g x y w → (Instr.loadAt 22 (.pointer (some ⟨g, 1, none⟩))).run Tryz.prog w = .ok y w := fun w h => load_d h.2
theorem Sb.keep {g : Nat} {x y : Value} {w w' : World} (h : Sb g x y w) (hb : Below w.heap.size w w') : Sb g x y w' := Bc.keep h hb
theorem Bc.set {w : World} {g h i : Nat} {x y z : Value} (k : Bc w g x y) (hne : g ≠ h) : Bc (w.setCell ⟨h, i, none⟩ z) g x y :=
  ⟨(World.cell?_setCell_other _ _ _ _ (by first | exact hne | (simp; done) | (simp; omega))).trans k.1, (World.cell?_setCell_other _ _ _ _ (by first | exact hne | (simp; done) | (simp; omega))).trans k.2⟩

end Go.Proofs.YtgopkffgljiblaaGreat.F
end

/-
  The program's IsCompact and Within.
-/
section
namespace Go.Proofs.YtgopkffgljiblaaGreat.F
set_option linter.unusedVariables false
open Go.RowKit V Go.Sort D
open E (SV SV.of_od Cm Vd getV get_ge hasV withinV orderR ordR)

theorem ask_near {w : World} {g B : Nat} {f : Nat → Int} {xs ys : List Dt} (hv : Vc (xs, ys)) (hf : ∀ i : Nat, f i = getV xs i) (hC : Cm w g f) (hb : w.cell? ⟨B, 0, none⟩ = some (.pointer (some ⟨g, 0, none⟩))) :
    Ask w 75 #[.pointer (some ⟨B, 0, none⟩)] ys (fun d => decide (d.2 ≤ getV xs d.1 + 1)) := fun W hW d hd => by
  have hd2 := valid_iff.1 (hv.2.2 d hd)
  have e : f d.1.toNat = getV xs d.1 := by rw [hf, Int.toNat_of_nonneg (by omega)]
  exact near_any d f (getV xs d.1) g B W e ⟨by omega, hd2.2.1⟩ ⟨get_ge hv.1 _, get_le hv.1 _⟩ (hC.keep hW) ((hW.cell (p := ⟨B, 0, none⟩) (lt_of_cell hb)).trans hb)

set_option maxRecDepth 100000 in
set_option maxHeartbeats 1000000 in
theorem isCompact_any (xs ys : List Dt) (a b : Option Addr) (n m : Nat) (w : World) (hx : RowD w a xs) (hy : RowD w b ys) (hlx : xs.length ≤ 1000000) (hly : ys.length ≤ 1000000) :
    Calls Tryz.prog 27 #[cv (.slice a xs.length n) (.slice b ys.length m)] w fun e w' => e = .returned (.bool (isCompR (xs, ys))) ∧ Below w.heap.size w w' := by
  have H1 := Lib.hid (fun w h1 h2 => valid_any xs ys a b n m w h1 h2 hlx hly)
  have H2 := Lib.hid (fun w hv h => countersOf_any xs a n w hv h hlx)
  have H3 := Lib.hid (fun w g B f hv hf hC hb h => containsF ys b m 75 #[.pointer (some ⟨B, 0, none⟩)] (fun d => decide (d.2 ≤ getV xs d.1 + 1)) w enters_near (ask_near (xs := xs) hv (f := f) (g := g) hf hC hb) h hly)
  have HVc : Hid (validC (xs, ys) = true → Vc (xs, ys)) := fun h => (valid_vc _).1 h
  have HN : Hid (validC (xs, ys) = false → isCompR (xs, ys) = false) := fun h => comp_inv h
  have HYs : Hid (validC (xs, ys) = true → isCompR (xs, ys) = !(ys.any fun d => decide (d.2 ≤ getV xs d.1 + 1))) := fun h => comp_prog h
  have HT := Lib.hid (show Sb w.heap.size (.slice a xs.length n) (.slice b ys.length m) _ from two_new w (.slice a xs.length n) (.slice b ys.length m))
  have HB := Lib.hid (bel_box w (cbox (.slice a xs.length n) (.slice b ys.length m)))
  have HX := Lib.hid (hx.keep HB.out)
  have HYr := Lib.hid (hy.keep HB.out)
  clear hx hy hlx hly
  generalize isCompR (xs, ys) = R at *
  generalize validC (xs, ys) = vb at *
  generalize ys.any (fun d => decide (d.2 ≤ getV xs d.1 + 1)) = q at *
  go_enter Tryz.func27, Tryz.ntmps27
  go_wp2_with fail
  generalize w.alloc (cbox (.slice a xs.length n) (.slice b ys.length m)) = w1 at *
  refine Sch.wp_region_tree (Sb w.heap.size (.slice a xs.length n) (.slice b ys.length m)) (.take 0 (.one 1 (.take 2 (.take 3 (.take 4 (.take 5 (.take 6 (.one 7 (.one 8 (.one 9 (.take 10 (.take 11 (.take 12 .done))))))))))))) (by kernel_rfl) (by kernel_rfl) (HT.out.keep ((Below.refl _ _).drew)) ?_
  have hb : Below w1.heap.size w1 w1.drew := (Below.refl _ _).drew
  replace HT := Lib.hid (HT.out.keep hb)
  replace HX := Lib.hid (HX.out.keep hb)
  replace HYr := Lib.hid (HYr.out.keep hb)
  replace HB := bel_tr HB hb
  clear hb
  generalize w1.drew = w2 at *
  refine tree_load _ _ _ _ _ rfl rfl rfl rfl (by first | exact Sb.l | exact Sb.l0 | exact Sb.l1) rfl ?_
  simp only [Act.put, List.setIfInBounds_toArray, List.set_cons_zero, List.set_cons_succ]
  refine Sch.tree_e rfl rfl (fun K hK => ?_)
  go_wp2_with fail
  refine (H1.out _ HX.out HYr.out).mono ?_
  rintro e w3 ⟨rfl, hb⟩
  replace HT := Lib.hid (HT.out.keep hb)
  replace HX := Lib.hid (HX.out.keep hb)
  replace HYr := Lib.hid (HYr.out.keep hb)
  replace HB := bel_tr HB hb
  clear hb H1
  refine hK _ _ HT.out ?_
  clear hK K
  rcases Bool.eq_false_or_eq_true vb with hv | hv
  · have hR := HYs.out hv
    have HV2 := Lib.hid (HVc.out hv)
    subst hR
    subst hv
    clear HN HYs HVc
    refine Sch.tree_q rfl rfl (fun K hK => ?_)
    go_big_quiet_op
    first | refine hK _ ?_ | refine ⟨_, fun _ _ => rfl, hK _ ?_⟩
    clear hK K
    refine Sch.tree_q rfl rfl (fun K hK => ?_)
    go_big_quiet_op
    first | refine hK _ ?_ | refine ⟨_, fun _ _ => rfl, hK _ ?_⟩
    clear hK K
    refine tree_load _ _ _ _ _ rfl rfl rfl rfl (by first | exact Sb.l | exact Sb.l0 | exact Sb.l1) rfl ?_
    simp only [Act.put, List.setIfInBounds_toArray, List.set_cons_zero, List.set_cons_succ]
    refine Sch.tree_q rfl rfl (fun K hK => ?_)
    go_big_quiet_op
    first | refine hK _ ?_ | refine ⟨_, fun _ _ => rfl, hK _ ?_⟩
    clear hK K
    refine tree_load _ _ _ _ _ rfl rfl rfl rfl (by first | exact Sb.l | exact Sb.l0 | exact Sb.l1) rfl ?_
    simp only [Act.put, List.setIfInBounds_toArray, List.set_cons_zero, List.set_cons_succ]
    refine Sch.tree_e rfl rfl (fun K hK => ?_)
    go_wp2_with fail
    refine (H2.out _ HV2.out.1 HX.out).mono ?_
    rintro e w4 ⟨g, rfl, f, hcm, hf, -, hb⟩
    have HCm := Lib.hid hcm
    have HF := Lib.hid hf
    replace HT := Lib.hid (HT.out.keep hb)
    replace HYr := Lib.hid (HYr.out.keep hb)
    replace HB := bel_tr HB hb
    clear hcm hf hb H2
    refine hK _ _ HT.out ?_
    clear hK K
    refine Sch.tree_e rfl rfl (fun K hK => ?_)
    go_wp2_with fail
    refine (nearTo_any g w4).mono ?_
    rintro e w5 ⟨rfl, hnr, hb⟩
    have HNr := Lib.hid hnr
    replace HCm := Lib.hid (HCm.out.keep hb)
    replace HT := Lib.hid (HT.out.keep hb)
    replace HYr := Lib.hid (HYr.out.keep hb)
    replace HB := bel_tr HB hb
    clear hnr hb
    refine hK _ _ HT.out ?_
    clear hK K
    refine Sch.tree_e rfl rfl (fun K hK => ?_)
    go_wp2_with fail
    refine (H3.out _ g w4.heap.size f HV2.out HF.out HCm.out HNr.out HYr.out).mono ?_
    rintro e w6 ⟨rfl, hb⟩
    replace HT := Lib.hid (HT.out.keep hb)
    replace HB := bel_tr HB hb
    clear hb H3
    refine hK _ _ HT.out ?_
    clear hK K
    refine Sch.tree_q rfl rfl (fun K hK => ?_)
    go_big_quiet_op
    first | refine hK _ ?_ | refine ⟨_, fun _ _ => rfl, hK _ ?_⟩
    clear hK K
    refine Sch.tree_q rfl rfl (fun K hK => ?_)
    go_big_quiet_op
    first | refine hK _ ?_ | refine ⟨_, fun _ _ => rfl, hK _ ?_⟩
    clear hK K
    refine Sch.tree_q rfl rfl (fun K hK => ?_)
    go_big_quiet_op
    first | refine hK _ ?_ | refine ⟨_, fun _ _ => rfl, hK _ ?_⟩
    clear hK K
    refine Sch.tree_n ?_
    go_wp2_with fail
    go_ret
    exact ⟨rfl, HB.out⟩
  · have hR := HN.out hv
    have hwv : (some vb == some true) = false := by rw [hv]; rfl
    subst hR
    clear HN HYs HVc H2 H3
    refine Sch.tree_q rfl rfl (fun K hK => ?_)
    go_big_quiet_op
    first | refine hK _ ?_ | refine ⟨_, fun _ _ => rfl, hK _ ?_⟩
    clear hK K
    refine Sch.tree_s _ rfl hwv rfl ?_
    simp only [Act.put, List.setIfInBounds_toArray, List.set_cons_zero, List.set_cons_succ]
    refine Sch.tree_s _ rfl hwv rfl ?_
    simp only [Act.put, List.setIfInBounds_toArray, List.set_cons_zero, List.set_cons_succ]
    refine Sch.tree_s _ rfl hwv rfl ?_
    simp only [Act.put, List.setIfInBounds_toArray, List.set_cons_zero, List.set_cons_succ]
    refine Sch.tree_s _ rfl hwv rfl ?_
    simp only [Act.put, List.setIfInBounds_toArray, List.set_cons_zero, List.set_cons_succ]
    refine Sch.tree_se _ rfl hwv rfl ?_
    simp only [Act.put, List.setIfInBounds_toArray, List.set_cons_zero, List.set_cons_succ]
    refine Sch.tree_se _ rfl hwv rfl ?_
    simp only [Act.put, List.setIfInBounds_toArray, List.set_cons_zero, List.set_cons_succ]
    refine Sch.tree_se _ rfl hwv rfl ?_
    simp only [Act.put, List.setIfInBounds_toArray, List.set_cons_zero, List.set_cons_succ]
    refine Sch.tree_s _ rfl hwv rfl ?_
    simp only [Act.put, List.setIfInBounds_toArray, List.set_cons_zero, List.set_cons_succ]
    subst hv
    refine Sch.tree_q rfl rfl (fun K hK => ?_)
    go_big_quiet_op
    first | refine hK _ ?_ | refine ⟨_, fun _ _ => rfl, hK _ ?_⟩
    clear hK K
    refine Sch.tree_q rfl rfl (fun K hK => ?_)
    go_big_quiet_op
    first | refine hK _ ?_ | refine ⟨_, fun _ _ => rfl, hK _ ?_⟩
    clear hK K
    refine Sch.tree_n ?_
    go_wp2_with fail
    go_ret
    exact ⟨rfl, HB.out⟩

/-- Two boxes, as a class of worlds. -/
def Sb2 (g h : Nat) (x y u v : Value) (w : World) : Prop := Bc w g x y ∧ Bc w h u v
theorem Sb2.keep {g h : Nat} {x y u v : Value} {w w' : World} (k : Sb2 g h x y u v w) (hb : Below w.heap.size w w') : Sb2 g h x y u v w' := ⟨k.1.keep hb, k.2.keep hb⟩
theorem Sb2.l {g h : Nat} {x y u v : Value} : ∀ w, Sb2 g h x y u v w → (Instr.loadAt 25 (.pointer (some ⟨h, 0, none⟩))).run Tryz.prog w = .ok (cv u v) w := fun w k => load_ctx k.2
theorem Sb2.la {g h : Nat} {x y u v : Value} : ∀ w, Sb2 g h x y u v w → (Instr.loadAt 25 (.pointer (some ⟨g, 0, none⟩))).run Tryz.prog w = .ok (cv x y) w := fun w k => load_ctx k.1
theorem Sb2.l1 {g h : Nat} {x y u v : Value} : ∀ w, Sb2 g h x y u v w → (Instr.loadAt 22 (.pointer (some ⟨g, 1, none⟩))).run Tryz.prog w = .ok y w := fun w k => load_d k.1.2
theorem Sb2.l0 {g h : Nat} {x y u v : Value} : ∀ w, Sb2 g h x y u v w → (Instr.loadAt 23 (.pointer (some ⟨g, 0, none⟩))).run Tryz.prog w = .ok x w := fun w k => load_v k.1.1
theorem Sb2.r1 {g h : Nat} {x y u v : Value} : ∀ w, Sb2 g h x y u v w → (Instr.loadAt 22 (.pointer (some ⟨h, 1, none⟩))).run Tryz.prog w = .ok v w := fun w k => load_d k.2.2
theorem Sb2.r0 {g h : Nat} {x y u v : Value} : ∀ w, Sb2 g h x y u v w → (Instr.loadAt 23 (.pointer (some ⟨h, 0, none⟩))).run Tryz.prog w = .ok u w := fun w k => load_v k.2.1

set_option maxRecDepth 100000 in
set_option maxHeartbeats 1000000 in
theorem within_any6 (xs ys us vs : List Dt) (a b p q : Option Addr) (n m j k : Nat) (w : World) (hx : RowD w a xs) (hy : RowD w b ys) (hu : RowD w p us) (hv : RowD w q vs) (hnp : p = none → j = 0) (hlx : xs.length ≤ 900000) (hly : ys.length ≤ 900000) (hlu : us.length ≤ 900000) (hlv : vs.length ≤ 900000) :
    Calls Tryz.prog 26 #[cv (.slice a xs.length n) (.slice b ys.length m), cv (.slice p us.length j) (.slice q vs.length k)] w fun e w' => e = .returned (.tuple #[.bool (withB (xs, ys) (us, vs)).1, .int .i64 (withB (xs, ys) (us, vs)).2]) ∧ Below w.heap.size w w' := by
  have HV1 := Lib.hid (fun w h1 h2 => valid_any xs ys a b n m w h1 h2 (by omega) (by omega))
  have HV2 := Lib.hid (fun w h1 h2 => valid_any us vs p q j k w h1 h2 (by omega) (by omega))
  have HC := Lib.hid (fun w hc h1 h2 => compacted_any us vs p q j k w hc h1 h2 hnp (by omega) (by omega))
  have HVc : Hid (validC (us, vs) = true → Vc (us, vs)) := fun h => (valid_vc _).1 h
  have HLc : Hid (validC (us, vs) = true → (compC (us, vs)).1.length ≤ 64 ∧ (compC (us, vs)).2.length ≤ 900000) := fun h => by
    have hv := (valid_vc _).1 h
    refine ⟨E.vd_len (comp_vc hv).1, ?_⟩
    have := (inv_all (v := us) (cl := vs) hv.1 hv.2.2 vs.length (Nat.le_refl _)).rl
    rw [end_rest us vs] at this
    omega
  have HOr := Lib.hid (fun b d w h1 h2 (hl : (compC (us, vs)).1.length ≤ 64) => E.order_any xs (compC (us, vs)).1 a b n d w h1 h2 (by omega) (by omega))
  have HOe : Hid (validC (xs, ys) = true → validC (us, vs) = true → ordR xs (compC (us, vs)).1 = (orderR xs (compC (us, vs)).1, 0) ∧ decide (orderR xs (compC (us, vs)).1 ≤ 0) = withinV xs (compC (us, vs)).1) := fun h1 h2 => ord_le ((valid_vc _).1 h1).1 (comp_vc ((valid_vc _).1 h2)).1
  have HMf := Lib.hid (fun c d n m w h1 h2 (hl : (compC (us, vs)).1.length ≤ 64 ∧ (compC (us, vs)).2.length ≤ 900000) => missingFrom_any (compC (us, vs)).1 (compC (us, vs)).2 c d n m w h1 h2 (by omega) (by omega))
  have HCF := Lib.hid (fun g cb pr w eg hp h => containsF ys b m g cb pr w eg hp h (by omega))
  have HN : Hid (¬ (validC (xs, ys) = true ∧ validC (us, vs) = true) → withB (xs, ys) (us, vs) = (false, 2)) := fun h => by unfold withB; rw [if_neg h]
  have HYs : Hid (validC (xs, ys) = true → validC (us, vs) = true → withB (xs, ys) (us, vs) = (withinV xs (compC (us, vs)).1 && !(ys.any fun d => !hasC ((compC (us, vs)).1, (compC (us, vs)).2) d), 0)) := fun h1 h2 => by unfold withB; rw [if_pos ⟨h1, h2⟩, with_prog]
  have HT := Lib.hid (two_new w (.slice a xs.length n) (.slice b ys.length m))
  have HB := Lib.hid (bel_box w (cbox (.slice a xs.length n) (.slice b ys.length m)))
  have hsz : (w.alloc (cbox (.slice a xs.length n) (.slice b ys.length m))).heap.size = w.heap.size + 1 := by simp
  have hb := bel_box (w.alloc (cbox (.slice a xs.length n) (.slice b ys.length m))) (cbox (.slice p us.length j) (.slice q vs.length k))
  have HS := Lib.hid (two_new (w.alloc (cbox (.slice a xs.length n) (.slice b ys.length m))) (.slice p us.length j) (.slice q vs.length k))
  rw [hsz] at HS
  replace HT := Lib.hid (HT.out.keep hb)
  replace HB := bel_tr HB hb
  have HX := Lib.hid (hx.keep HB.out)
  have HYr := Lib.hid (hy.keep HB.out)
  have HUr := Lib.hid (hu.keep HB.out)
  have HVr := Lib.hid (hv.keep HB.out)
  clear hx hy hu hv hnp hlx hly hlu hlv hsz hb
  generalize withB (xs, ys) (us, vs) = R at *
  generalize compC (us, vs) = C at *
  generalize withinV xs C.1 = vw at *
  generalize orderR xs C.1 = o at *
  have k0 := HT.out.1
  have k1 := HT.out.2
  have k2 := HS.out.1
  have k3 := HS.out.2
  go_enter Tryz.func26, Tryz.ntmps26
  go_wp2_with fail
  generalize (w.alloc (cbox (.slice a xs.length n) (.slice b ys.length m))).alloc (cbox (.slice p us.length j) (.slice q vs.length k)) = w1 at *
  refine (HV1.out _ HX.out HYr.out).mono ?_
  rintro e w2 ⟨rfl, hb⟩
  replace HT := Lib.hid (HT.out.keep hb)
  replace HS := Lib.hid (HS.out.keep hb)
  replace HX := Lib.hid (HX.out.keep hb)
  replace HYr := Lib.hid (HYr.out.keep hb)
  replace HUr := Lib.hid (HUr.out.keep hb)
  replace HVr := Lib.hid (HVr.out.keep hb)
  replace HB := bel_tr HB hb
  clear hb k0 k1 k2 k3 HV1
  rcases hv1 : validC (xs, ys) with _ | _
  · have hR := HN.out (by rw [hv1]; simp)
    subst hR
    clear hv1 HN HYs HC HV2 HOr HOe HMf HCF HVc HLc
    go_wp2_with fail
    go_ret2
    exact ⟨rfl, HB.out⟩
  have k0 := HT.out.1
  have k1 := HT.out.2
  have k2 := HS.out.1
  have k3 := HS.out.2
  go_wp2_with fail
  refine (HV2.out _ HUr.out HVr.out).mono ?_
  rintro e w3 ⟨rfl, hb⟩
  replace HT := Lib.hid (HT.out.keep hb)
  replace HS := Lib.hid (HS.out.keep hb)
  replace HX := Lib.hid (HX.out.keep hb)
  replace HYr := Lib.hid (HYr.out.keep hb)
  replace HUr := Lib.hid (HUr.out.keep hb)
  replace HVr := Lib.hid (HVr.out.keep hb)
  replace HB := bel_tr HB hb
  clear hb k0 k1 k2 k3 HV2
  rcases hv2 : validC (us, vs) with _ | _
  · have hR := HN.out (by rw [hv2]; simp)
    subst hR
    clear hv1 hv2 HN HYs HC HOr HOe HMf HCF HVc HLc
    go_wp2_with fail
    go_ret2
    exact ⟨rfl, HB.out⟩
  have hR := HYs.out hv1 hv2
  subst hR
  have HVc2 := Lib.hid (HVc.out hv2)
  have HLc2 := Lib.hid (HLc.out hv2)
  obtain ⟨hOe1, hOe2⟩ := HOe.out hv1 hv2
  rw [hOe1] at HOr
  have HLe := Lib.hid hOe2
  clear HN HYs HOe HVc HLc hv1 hv2 hOe1 hOe2
  have k0 := HT.out.1
  have k1 := HT.out.2
  have k2 := HS.out.1
  have k3 := HS.out.2
  go_wp2_with fail
  refine (HC.out _ HVc2.out HUr.out HVr.out).mono ?_
  rintro e w4 ⟨x, y, rfl, ho1, ho2, hb⟩
  have HO : Hid (Ov w4 w3.heap.size x y C) := ⟨ho1, ho2⟩
  replace HT := Lib.hid (HT.out.keep hb)
  replace HS := Lib.hid (HS.out.keep hb)
  replace HX := Lib.hid (HX.out.keep hb)
  replace HYr := Lib.hid (HYr.out.keep hb)
  replace HUr := Lib.hid (HUr.out.keep hb)
  replace HVr := Lib.hid (HVr.out.keep hb)
  replace HB := bel_tr HB hb
  clear ho1 ho2 hb k0 k1 k2 k3 HC
  obtain ⟨a4, c4, b4, m4, rfl, rfl⟩ := HO.out.shape
  have hr1 := (OD.r HO.out.1).1
  have hr2 := (OD.r HO.out.2).1
  have hb := bel_box w4 (cbox (.slice a4 C.1.length c4) (.slice b4 C.2.length m4))
  have HZ := Lib.hid (two_new w4 (.slice a4 C.1.length c4) (.slice b4 C.2.length m4))
  have HR1 := Lib.hid (hr1.keep hb)
  have HR2 := Lib.hid (hr2.keep hb)
  replace HT := Lib.hid (HT.out.keep hb)
  replace HS := Lib.hid (HS.out.keep hb)
  replace HX := Lib.hid (HX.out.keep hb)
  replace HYr := Lib.hid (HYr.out.keep hb)
  replace HUr := Lib.hid (HUr.out.keep hb)
  replace HVr := Lib.hid (HVr.out.keep hb)
  replace HB := bel_tr HB hb
  clear hr1 hr2 hb HO
  have k0 := HT.out.1
  have k1 := HT.out.2
  have k2 := HZ.out.1
  have k3 := HZ.out.2
  go_wp2_with fail
  generalize w4.alloc (cbox (.slice a4 C.1.length c4) (.slice b4 C.2.length m4)) = w5 at *
  refine (HOr.out _ _ _ HX.out HR1.out HLc2.out.1).mono ?_
  rintro e w6 ⟨rfl, hl⟩
  have hb := hl.bel
  replace HT := Lib.hid (HT.out.keep hb)
  replace HS := Lib.hid (HS.out.keep hb)
  replace HX := Lib.hid (HX.out.keep hb)
  replace HYr := Lib.hid (HYr.out.keep hb)
  replace HUr := Lib.hid (HUr.out.keep hb)
  replace HVr := Lib.hid (HVr.out.keep hb)
  replace HB := bel_tr HB hb
  replace HZ := Lib.hid (HZ.out.keep hb)
  replace HR1 := Lib.hid (HR1.out.keep hb)
  replace HR2 := Lib.hid (HR2.out.keep hb)
  clear hl hb k0 k1 k2 k3 HOr
  have HSb : Hid (Sb2 w.heap.size w4.heap.size (.slice a xs.length n) (.slice b ys.length m) (.slice a4 C.1.length c4) (.slice b4 C.2.length m4) w6) := ⟨HT.out, HZ.out⟩
  clear HT HS HZ HUr HVr HX
  go_wp2_with fail
  refine Sch.wp_region_tree (Sb2 w.heap.size w4.heap.size (.slice a xs.length n) (.slice b ys.length m) (.slice a4 C.1.length c4) (.slice b4 C.2.length m4)) (.take 0 (.take 1 (.take 2 (.take 3 (.take 4 (.take 5 (.one 6 (.one 7 (.take 8 (.take 9 (.take 10 (.take 11 .done)))))))))))) (by kernel_rfl) (by kernel_rfl) (HSb.out.keep ((Below.refl _ _).drew)) ?_
  have hb : Below w6.heap.size w6 w6.drew := (Below.refl _ _).drew
  replace HSb := Lib.hid (HSb.out.keep hb)
  replace HYr := Lib.hid (HYr.out.keep hb)
  replace HR1 := Lib.hid (HR1.out.keep hb)
  replace HR2 := Lib.hid (HR2.out.keep hb)
  replace HB := bel_tr HB hb
  clear hb
  generalize w6.drew = w7 at *
  refine Sch.tree_q rfl rfl (fun K hK => ?_)
  go_big_quiet_op
  first | refine hK _ ?_ | refine ⟨_, fun _ _ => rfl, hK _ ?_⟩
  clear hK K
  refine Sch.tree_q rfl rfl (fun K hK => ?_)
  go_big_quiet_op
  first | refine hK _ ?_ | refine ⟨_, fun _ _ => rfl, hK _ ?_⟩
  clear hK K
  refine Sch.tree_q rfl rfl (fun K hK => ?_)
  go_big_quiet_op
  first | refine hK _ ?_ | refine ⟨_, fun _ _ => rfl, hK _ ?_⟩
  clear hK K
  have hde := HLe.out
  clear HLe
  rw [hde]
  clear hde
  rcases Bool.eq_false_or_eq_true vw with hv | hv
  · subst hv
    refine Sch.tree_q rfl rfl (fun K hK => ?_)
    go_big_quiet_op
    first | refine hK _ ?_ | refine ⟨_, fun _ _ => rfl, hK _ ?_⟩
    clear hK K
    refine tree_load _ _ _ _ _ rfl rfl rfl rfl (by first | exact Sb2.l | exact Sb2.la | exact Sb2.l0 | exact Sb2.l1 | exact Sb2.r0 | exact Sb2.r1) rfl ?_
    simp only [Act.put, List.setIfInBounds_toArray, List.set_cons_zero, List.set_cons_succ]
    refine tree_load _ _ _ _ _ rfl rfl rfl rfl (by first | exact Sb2.l | exact Sb2.la | exact Sb2.l0 | exact Sb2.l1 | exact Sb2.r0 | exact Sb2.r1) rfl ?_
    simp only [Act.put, List.setIfInBounds_toArray, List.set_cons_zero, List.set_cons_succ]
    refine Sch.tree_e rfl rfl (fun K hK => ?_)
    go_wp2_with fail
    refine (HMf.out _ _ _ _ _ HR1.out HR2.out HLc2.out).mono ?_
    rintro e w8 ⟨g, h, rfl, hask, hb⟩
    have HAsk := Lib.hid (hask ys)
    replace HSb := Lib.hid (HSb.out.keep hb)
    replace HYr := Lib.hid (HYr.out.keep hb)
    replace HB := bel_tr HB hb
    clear hask hb HMf
    refine hK _ _ HSb.out ?_
    clear hK K
    refine Sch.tree_e rfl rfl (fun K hK => ?_)
    go_wp2_with fail
    refine (HCF.out _ _ _ _ enters_miss HAsk.out HYr.out).mono ?_
    rintro e w9 ⟨rfl, hb⟩
    replace HSb := Lib.hid (HSb.out.keep hb)
    replace HB := bel_tr HB hb
    clear hb HCF HAsk
    refine hK _ _ HSb.out ?_
    clear hK K
    refine Sch.tree_q rfl rfl (fun K hK => ?_)
    go_big_quiet_op
    first | refine hK _ ?_ | refine ⟨_, fun _ _ => rfl, hK _ ?_⟩
    clear hK K
    refine Sch.tree_q rfl rfl (fun K hK => ?_)
    go_big_quiet_op
    first | refine hK _ ?_ | refine ⟨_, fun _ _ => rfl, hK _ ?_⟩
    clear hK K
    refine Sch.tree_q rfl rfl (fun K hK => ?_)
    go_big_quiet_op
    first | refine hK _ ?_ | refine ⟨_, fun _ _ => rfl, hK _ ?_⟩
    clear hK K
    refine Sch.tree_q rfl rfl (fun K hK => ?_)
    go_big_quiet_op
    first | refine hK _ ?_ | refine ⟨_, fun _ _ => rfl, hK _ ?_⟩
    clear hK K
    refine Sch.tree_n ?_
    go_wp2_with fail
    go_ret2
    exact ⟨rfl, HB.out⟩
  · have hwv : (some vw == some true) = false := by rw [hv]; rfl
    refine Sch.tree_s _ rfl hwv rfl ?_
    simp only [Act.put, List.setIfInBounds_toArray, List.set_cons_zero, List.set_cons_succ]
    refine Sch.tree_s _ rfl hwv rfl ?_
    simp only [Act.put, List.setIfInBounds_toArray, List.set_cons_zero, List.set_cons_succ]
    refine Sch.tree_s _ rfl hwv rfl ?_
    simp only [Act.put, List.setIfInBounds_toArray, List.set_cons_zero, List.set_cons_succ]
    refine Sch.tree_se _ rfl hwv rfl ?_
    simp only [Act.put, List.setIfInBounds_toArray, List.set_cons_zero, List.set_cons_succ]
    refine Sch.tree_se _ rfl hwv rfl ?_
    simp only [Act.put, List.setIfInBounds_toArray, List.set_cons_zero, List.set_cons_succ]
    refine Sch.tree_s _ rfl hwv rfl ?_
    simp only [Act.put, List.setIfInBounds_toArray, List.set_cons_zero, List.set_cons_succ]
    subst hv
    refine Sch.tree_q rfl rfl (fun K hK => ?_)
    go_big_quiet_op
    first | refine hK _ ?_ | refine ⟨_, fun _ _ => rfl, hK _ ?_⟩
    clear hK K
    refine Sch.tree_q rfl rfl (fun K hK => ?_)
    go_big_quiet_op
    first | refine hK _ ?_ | refine ⟨_, fun _ _ => rfl, hK _ ?_⟩
    clear hK K
    refine Sch.tree_q rfl rfl (fun K hK => ?_)
    go_big_quiet_op
    first | refine hK _ ?_ | refine ⟨_, fun _ _ => rfl, hK _ ?_⟩
    clear hK K
    refine Sch.tree_n ?_
    go_wp2_with fail
    go_ret2
    exact ⟨rfl, HB.out⟩
end Go.Proofs.YtgopkffgljiblaaGreat.F
end

/-
  The program's Missing and Size.
-/
section
namespace Go.Proofs.YtgopkffgljiblaaGreat.F
set_option linter.unusedVariables false
open Go.RowKit V Go.Sort D
open E (SV SV.of_od Cm Vd getV get_ge hasV)

set_option maxRecDepth 100000 in
set_option maxHeartbeats 1000000 in
theorem missing_any (xs ys l : List Dt) (a b p : Option Addr) (n m j : Nat) (w : World) (hx : RowD w a xs) (hy : RowD w b ys) (hl : RowD w p l) (hlx : xs.length ≤ 1000000) (hly : ys.length ≤ 1000000) (hll : l.length ≤ 1000000) :
    Calls Tryz.prog 80 #[cv (.slice a xs.length n) (.slice b ys.length m), .slice p l.length j] w fun e w' => ∃ v, e = .returned v ∧ OD w' w.heap.size E v (missR (xs, ys) l) ∧ Below w.heap.size w w' := by
  have HMf := Lib.hid (fun w h1 h2 => missingFrom_any xs ys a b n m w h1 h2 hlx hly)
  have HS := Lib.hid (fun w h => set_any l p j w h hll)
  have HSl := Lib.hid (Nat.le_trans (set_len l) hll)
  have HR : Hid ((setR l).filter (fun d => !hasC (xs, ys) d) = missR (xs, ys) l) := miss_filter _ _
  have HT := Lib.hid (two_new w (.slice a xs.length n) (.slice b ys.length m))
  have HB := Lib.hid (bel_box w (cbox (.slice a xs.length n) (.slice b ys.length m)))
  have HX := Lib.hid (hx.keep HB.out)
  have HYr := Lib.hid (hy.keep HB.out)
  have HL := Lib.hid (hl.keep HB.out)
  clear hx hy hl hlx hly hll
  generalize hP : (fun d => !hasC (xs, ys) d) = P at *
  clear hP
  generalize missR (xs, ys) l = R at *
  generalize setR l = s at *
  have hls : (s.length : Int) ≤ 1000000 := by have := HSl.out; omega
  have k0 := HT.out.1
  have k1 := HT.out.2
  go_enter Tryz.func80, Tryz.ntmps80
  go_wp2_with fail
  generalize w.alloc (cbox (.slice a xs.length n) (.slice b ys.length m)) = w1 at *
  refine (HMf.out _ HX.out HYr.out).mono ?_
  rintro e w2 ⟨g, h, rfl, hask, hb⟩
  have HAsk := Lib.hid (hask s)
  replace HL := Lib.hid (HL.out.keep hb)
  replace HB := bel_tr HB hb
  clear hask hb HMf k0 k1 HT HX HYr
  go_wp2_with fail
  refine (HS.out _ HL.out).mono ?_
  rintro e w3 ⟨v, rfl, hsv, hb⟩
  obtain ⟨a2, c2, rfl, -, hr⟩ := hsv.row
  have HRr := Lib.hid hr
  replace HAsk := Lib.hid (HAsk.out.keep hb)
  replace HB := bel_tr HB hb
  clear hsv hb hr HS HL
  have eg := enters_miss
  go_wp2_with fail
  go_loopw [6, 8, 14] (fun v _ i wr => ∃ k : Nat, k ≤ s.length ∧ i = .int .i64 (k : Int) ∧ Hid (Below w3.heap.size w3 wr) ∧ Hid (OD wr w3.heap.size E v ((s.take k).filter P))) (fun _ _ i _ => s.length - (intOf i).toNat)
  case atStart => exact ⟨0, Nat.zero_le _, rfl, Below.refl _ _, by show OD _ _ _ _ _; rw [List.take_zero]; exact OD.nil _ _ _⟩
  case round =>
    obtain ⟨k, hk, rfl, hh, HO⟩ := hrel
    by_cases hlt : k < s.length
    · have hi1 : (k : Int) < (s.length : Int) := by omega
      obtain ⟨b1, o1, rfl, p0, p1⟩ := HRr.out.get hh.out k hlt
      have HF := Lib.hid (filter_take hlt P)
      have hBa := bel_box wr (Obj.cells #[.int .i64 s[k].1, .int .i64 s[k].2] 48)
      have HQ := Lib.hid (HAsk.out (wr.alloc (Obj.cells #[.int .i64 s[k].1, .int .i64 s[k].2] 48)) (hh.out.trans (hBa.mono hh.out.size)) s[k] (List.getElem_mem hlt))
      have HK : Hid (Bd wr.heap.size s[k].1 s[k].2 (wr.alloc (Obj.cells #[.int .i64 s[k].1, .int .i64 s[k].2] 48))) := by refine ⟨?_, ?_⟩ <;> go_simp
      obtain ⟨q, hq⟩ : ∃ q, q = s[k] := ⟨_, rfl⟩
      rw [← hq] at p0 p1 HF hBa HQ HK
      clear hq
      have HO1 := Lib.hid (HO.out.below hBa)
      have HB1 := bel_tr hh hBa
      have HFl : Hid (((s.take k).filter P).length ≤ 1000000) := by
        show _ ≤ _
        have h1 := List.length_filter_le P (s.take k)
        rw [List.length_take] at h1
        have := HSl.out
        omega
      obtain ⟨q1, q2⟩ := q
      simp only at p0 p1 hBa HK
      clear hBa
      go_wp2_with fail
      generalize wr.alloc (Obj.cells #[.int .i64 q1, .int .i64 q2] 48) = w5 at *
      refine HQ.out.mono ?_
      rintro e w6 ⟨rfl, hb⟩
      replace HK := Lib.hid (HK.out.keep hb)
      replace HO1 := Lib.hid (HO1.out.below hb)
      replace HB1 := bel_tr HB1 hb
      clear hb HQ p0 p1
      have k0 := HK.out.1
      have k1 := HK.out.2
      rcases hpq : P (q1, q2) with _ | _
      · have hf := HF.out
        rw [hpq, if_neg (by simp)] at hf
        replace HF := Lib.hid hf
        clear hf hpq
        go_wp2_with fail
        go_roundw
        case rel => exact ⟨k + 1, by omega, by go_num, HB1, by show OD _ _ _ _ _; rw [HF.out]; exact HO1.out⟩
        case measure => simp [intOf]; omega
      · have hf := HF.out
        rw [hpq, if_pos rfl] at hf
        replace HF := Lib.hid hf
        clear hf hpq
        have hBa := bel_box w6 (Obj.cells #[.int .i64 q1, .int .i64 q2] 48)
        have HBs := Lib.hid HB1.out.size
        have HB2 := bel_tr HB1 hBa
        go_wp2_with (at_builtin; refine wpList_appD rfl _ _ _ rfl Tryz.underlying22 infoD _ _ rfl (HO1.out.below hBa) (some ⟨w6.heap.size, 0, none⟩) [(q1, q2)] 1 rfl (lit_one w6 (q1, q2) _) (fun h => by cases h) (by have := HFl.out; simp; omega) HB2.out.size ?_)
        intro v7 w7 ho hg _
        have HO7 : Hid (OD w7 w3.heap.size E v7 ((s.take k).filter P ++ [(q1, q2)])) := ho
        have HB7 := Lib.hid (HB2.out.grown hg HB2.out.size (fun k hk => (HO1.out.lt k hk).1))
        clear ho hg hBa k0 k1
        go_wp2_with fail
        go_roundw
        case rel => exact ⟨k + 1, by omega, by go_num, HB7, by show OD _ _ _ _ _; rw [HF.out]; exact HO7.out⟩
        case measure => simp [intOf]; omega
    · obtain rfl : k = s.length := by omega
      have hi1 : ¬ (s.length : Int) < (s.length : Int) := by omega
      rw [List.take_length, HR.out] at HO
      have HO2 : Hid (OD wr w.heap.size E u6 R) := HO.out.mono fun k hk => Nat.le_trans HB.out.size (HO.out.lt k hk).1
      have HB2 := bel_tr HB hh.out
      go_wp2_with fail
      go_ret
      exact ⟨_, rfl, HO2.out, HB2.out⟩

/-! ### Size -/
theorem sum_take {v : List Dt} {k : Nat} (h : k < v.length) : sumV (v.take (k + 1)) = sumV (v.take k) + v[k].2 := by
  unfold sumV
  rw [List.take_succ_eq_append_getElem h, List.map_append, List.sum_append]
  simp
theorem sum_le : ∀ (v : List Dt), (∀ x ∈ v, 0 ≤ x.2 ∧ x.2 ≤ 4294967295) → 0 ≤ sumV v ∧ sumV v ≤ 4294967295 * (v.length : Int)
  | [], _ => by simp [sumV]
  | d :: t, h => by
    have h1 := h d (by simp)
    have h2 := sum_le t fun x hx => h x (by simp [hx])
    rw [sum_cons, List.length_cons]
    push_cast
    omega
/-- How many of the first dots are not in the vector. -/
def cntN (xs ys : List Dt) (k : Nat) : Int := (((ys.take k).filter fun d => !hasV xs d).length : Int)
theorem cntN_succ {xs ys : List Dt} {k : Nat} (h : k < ys.length) : cntN xs ys (k + 1) = cntN xs ys k + if hasV xs ys[k] = true then 0 else 1 := by
  unfold cntN
  rw [filter_take h]
  rcases hasV xs ys[k] with _ | _
  · simp
  · simp
theorem cntN_le (xs ys : List Dt) (k : Nat) : 0 ≤ cntN xs ys k ∧ cntN xs ys k ≤ k := by
  unfold cntN
  have h1 := List.length_filter_le (fun d => !hasV xs d) (ys.take k)
  rw [List.length_take] at h1
  omega
theorem size_eq (xs ys : List Dt) : sizeC (xs, ys) = sumV xs + cntN xs ys ys.length := by
  unfold cntN sizeC
  rw [List.take_length]
theorem wrap_u64 {z : Int} (h : 0 ≤ z ∧ z ≤ 1000000000000) : IntKind.u64.wrap z = z := by simp [IntKind.wrap, IntKind.bits, IntKind.signed]; omega
end Go.Proofs.YtgopkffgljiblaaGreat.F
end

/-
  Size: the program's.
-/
section
namespace Go.Proofs.YtgopkffgljiblaaGreat.F
set_option linter.unusedVariables false
open Go.RowKit V Go.Sort D
open E (SV SV.of_od Cm Vd getV get_ge hasV)

def sizeB (c : Ct) : Int := if validC c = true then sizeC c else 0

end Go.Proofs.YtgopkffgljiblaaGreat.F
end
end
