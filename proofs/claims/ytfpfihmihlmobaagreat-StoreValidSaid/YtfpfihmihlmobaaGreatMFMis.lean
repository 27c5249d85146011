/-
  The program's question whether a dot is missing.
-/
import Derived.Test.YtfpfihmihlmobaaGreatMEOf
import Derived.Test.YtfpfihmihlmobaaGreatMDSet
import Derived.Test.YtfpfihmihlmobaaGreatMDText
import Derived.Test.YtfpfihmihlmobaaGreatMEVal
import Derived.Test.YtfpfihmihlmobaaGreatMDRefB

section
namespace Go.Proofs.YtfpfihmihlmobaaGreat.F
set_option linter.unusedVariables false
open Go.RowKit V Go.Sort D

theorem enters_miss : ∀ args w, (callFunc 90 args).run Tryz.prog w = .ok (.enter 90 args) w := enters_of Tryz.func90 (by kernel_rfl) rfl
/-- What the question has in memory: the set of the cloud, and the context. -/
def Ms (w : World) (g h : Nat) (x y z : Value) (xs ms : List Dt) : Prop :=
  w.cell? ⟨g, 0, none⟩ = some z ∧ Bc w h x y ∧ (∃ a n, x = .slice a xs.length n ∧ RowD w a xs) ∧ (∃ a n, z = .slice a ms.length n ∧ RowD w a ms)
theorem Ms.keep {w w' : World} {g h : Nat} {x y z : Value} {xs ms : List Dt} (k : Ms w g h x y z xs ms) (hb : Below w.heap.size w w') : Ms w' g h x y z xs ms := by
  obtain ⟨h1, h2, ⟨a, n, h3, h4⟩, b, m, h5, h6⟩ := k
  exact ⟨(hb.cell (p := ⟨g, 0, none⟩) (lt_of_cell h1)).trans h1, h2.keep hb, ⟨a, n, h3, h4.keep hb⟩, b, m, h5, h6.keep hb⟩

set_option maxRecDepth 100000 in
set_option maxHeartbeats 1000000 in
theorem miss_any (xs ms ys : List Dt) (d : Dt) (x y z : Value) (g h : Nat) (w : World) (hM : Ms w g h x y z xs ms) (hs : Srt ms) (hm : ∀ x, x ∈ ms ↔ x ∈ ys) (hlx : xs.length ≤ 1000000) (hlm : ms.length ≤ 1000000) :
    Calls Tryz.prog 90 #[dv d, .pointer (some ⟨g, 0, none⟩), .pointer (some ⟨h, 0, none⟩)] w fun e w' => e = .returned (.bool (!hasC (xs, ys) d)) ∧ Below w.heap.size w w' := by
  have HE : Hid ((!hasC (xs, ys) d) = (!validR d || (!decide (d ∈ ms) && !E.hasV xs d))) := by
    show _ = _
    have e : decide (d ∈ ys) = decide (d ∈ ms) := by rw [decide_eq_decide]; exact (hm d).symm
    show (!(validR d && (E.hasV xs d || decide (d ∈ ys)))) = _
    rw [e]
    rcases validR d <;> rcases E.hasV xs d <;> rcases decide (d ∈ ms) <;> rfl
  have HB := Lib.hid (bel_box w (.cells #[.int .i64 d.1, .int .i64 d.2] 33))
  have HM := Lib.hid (hM.keep HB.out)
  have HK : Hid (Bd w.heap.size d.1 d.2 (w.alloc (.cells #[.int .i64 d.1, .int .i64 d.2] 33))) := by refine ⟨?_, ?_⟩ <;> go_simp
  have H1 := Lib.hid (fun a c w h => search_any ms d a c w hs h hlm)
  have H2 := Lib.hid (fun w => E.valid_lays d w)
  have H3 := Lib.hid (fun a n w h => E.has_any xs d a n w h (by omega))
  clear hM hs hm hlx hlm
  generalize (!hasC (xs, ys) d) = R at *
  generalize E.hasV xs d = v1 at *
  generalize validR d = v2 at *
  generalize decide (d ∈ ms) = v3 at *
  obtain ⟨d1, d2⟩ := d
  simp only at HK
  obtain ⟨k0, -, -, a, n, rfl, hr⟩ := HM.out
  have k1 := HK.out.1
  have k2 := HK.out.2
  go_enter Tryz.func90, Tryz.ntmps90
  go_wp2_with fail
  generalize w.alloc (.cells #[.int .i64 d1, .int .i64 d2] 33) = w1 at *
  refine (H1.out _ _ _ hr).mono ?_
  rintro e w2 ⟨i, rfl, hb⟩
  replace HM := Lib.hid (HM.out.keep hb)
  replace HK := Lib.hid (HK.out.keep hb)
  replace HB := bel_tr HB hb
  clear hb hr k0 k1 k2 H1
  have k1 := HK.out.1
  have k2 := HK.out.2
  go_wp2_with fail
  refine (H2.out _).mono ?_
  rintro e w3 ⟨rfl, hl⟩
  have hb := hl.bel
  replace HM := Lib.hid (HM.out.keep hb)
  replace HK := Lib.hid (HK.out.keep hb)
  replace HB := bel_tr HB hb
  clear hl hb k1 k2 H2
  rcases v2 with _ | _
  · have hE := HE.out
    subst hE
    clear HE
    go_wp2_with fail
    go_ret
    exact ⟨rfl, HB.out⟩
  · rcases v3 with _ | _
    · have k1 := HK.out.1
      have k2 := HK.out.2
      obtain ⟨-, ⟨k3, k4⟩, ⟨b, m, rfl, hr⟩, -⟩ := HM.out
      go_wp2_with fail
      refine (H3.out _ _ _ hr).mono ?_
      rintro e w4 ⟨rfl, hl⟩
      replace HB := bel_tr HB hl.bel
      clear hl hr k1 k2 k3 k4 H3
      have hE := HE.out
      simp at hE
      subst hE
      clear HE
      go_wp2_with fail
      go_ret
      exact ⟨rfl, HB.out⟩
    · have hE := HE.out
      simp at hE
      subst hE
      clear HE
      go_wp2_with fail
      go_ret
      exact ⟨rfl, HB.out⟩

set_option maxRecDepth 100000 in
set_option maxHeartbeats 1000000 in
/-- missingFrom: a question that may be asked of any dot, wherever it is asked behind. -/
theorem missingFrom_any (xs ys : List Dt) (a b : Option Addr) (n m : Nat) (w : World) (hx : RowD w a xs) (hy : RowD w b ys) (hlx : xs.length ≤ 1000000) (hly : ys.length ≤ 1000000) :
    Calls Tryz.prog 73 #[cv (.slice a xs.length n) (.slice b ys.length m)] w fun e w' => ∃ g h, e = .returned (.func (.func 90) #[] #[.pointer (some ⟨g, 0, none⟩), .pointer (some ⟨h, 0, none⟩)]) ∧
      (∀ l, Ask w' 90 #[.pointer (some ⟨g, 0, none⟩), .pointer (some ⟨h, 0, none⟩)] l (fun d => !hasC (xs, ys) d)) ∧ Below w.heap.size w w' := by
  have HS := Lib.hid (fun w h => set_any ys b m w h hly)
  have HSl := Lib.hid (set_len ys)
  have HB := Lib.hid (bel_box w (cbox (.slice a xs.length n) (.slice b ys.length m)))
  have HT := Lib.hid (two_new w (.slice a xs.length n) (.slice b ys.length m))
  have HX := Lib.hid (hx.keep HB.out)
  have HY := Lib.hid (hy.keep HB.out)
  have HMi := Lib.hid (fun x y z g h w d hM => miss_any xs (setR ys) ys d x y z g h w hM (srt_set ys) (fun x => mem_set) hlx (Nat.le_trans (set_len ys) hly))
  clear hx hy hlx hly
  generalize setR ys = ms at *
  go_enter Tryz.func73, Tryz.ntmps73
  go_wp2_with fail
  generalize w.alloc (cbox (.slice a xs.length n) (.slice b ys.length m)) = w1 at *
  have k1 := HT.out.2
  go_wp2_with fail
  refine (HS.out _ HY.out).mono ?_
  rintro e w2 ⟨v, rfl, hsv, hb⟩
  obtain ⟨a2, c2, rfl, -, hr⟩ := hsv.row
  replace HT := Lib.hid (HT.out.keep hb)
  replace HX := Lib.hid (HX.out.keep hb)
  replace HB := bel_tr HB hb
  have hb2 := bel_box w2 (.cells #[.slice a2 ms.length c2] 43)
  have HB2 := bel_tr HB hb2
  have HM : Hid (Ms (w2.alloc (.cells #[.slice a2 ms.length c2] 43)) w2.heap.size w.heap.size (.slice a xs.length n) (.slice b ys.length m) (.slice a2 ms.length c2) xs ms) :=
    ⟨by go_simp, HT.out.keep hb2, ⟨_, _, rfl, HX.out.keep hb2⟩, _, _, rfl, hr.keep hb2⟩
  clear hsv hb hr hb2 HS k1
  go_wp2_with fail
  go_ret
  exact ⟨_, _, rfl, fun l W hW d _ => HMi.out _ _ _ _ _ W d (HM.out.keep hW), HB2.out⟩
end Go.Proofs.YtfpfihmihlmobaaGreat.F
end

/-
  Add, Union, Within, Of, Size, as the program does them.
-/
section
/-
  The program's Compact, Union, Of and Add.
-/
section
namespace Go.Proofs.YtfpfihmihlmobaaGreat.F
set_option linter.unusedVariables false
open Go.RowKit V Go.Sort D
open E (SV SV.of_od)

theorem load_ctx {w : World} {g : Nat} {x y : Value} (h : Bc w g x y) : (Instr.loadAt 51 (.pointer (some ⟨g, 0, none⟩))).run Tryz.prog w = .ok (cv x y) w := by
  have h0 := h.1
  have h1 := h.2
  go_simp
theorem Wc.keep {w w' : World} {g : Nat} (h : Wc w g) (hb : Below w.heap.size w w') : Wc w' g := fun i hi => by
  obtain ⟨⟨v, hv⟩, hf⟩ := h i hi
  have hl := lt_of_cell hv
  exact ⟨⟨v, (hb.cell (p := ⟨g, i, none⟩) hl).trans hv⟩, (hb.frozen (p := ⟨g, i, none⟩) hl).trans hf⟩
theorem Wc.lt {w : World} {g : Nat} (h : Wc w g) : g < w.heap.size := by
  obtain ⟨⟨v, hv⟩, -⟩ := h 0 (by omega)
  exact lt_of_cell hv
theorem wc_new (w : World) : Wc (w.alloc (cbox (.slice none 0 0) (.slice none 0 0))) w.heap.size := by
  intro i hi
  rcases i with _ | _ | i
  · exact ⟨⟨_, by go_simp; rfl⟩, by go_simp⟩
  · exact ⟨⟨_, by go_simp; rfl⟩, by go_simp⟩
  · omega
theorem below_put {B : Nat} {a w : World} {g : Nat} {x y : Value} (h : Below B a w) (hg : B ≤ g) : Below B a ((w.setCell ⟨g, 0, none⟩ x).setCell ⟨g, 1, none⟩ y) := (h.setCell (p := ⟨g, 0, none⟩) hg _).setCell (p := ⟨g, 1, none⟩) hg _
/-- A context that a call has made itself, behind a place. -/
def Ov (w : World) (base : Nat) (x y : Value) (c : Ct) : Prop := OD w base E x c.1 ∧ OD w base E y c.2
theorem Ov.below {w w' : World} {base : Nat} {x y : Value} {c : Ct} (h : Ov w base x y c) (hb : Below w.heap.size w w') : Ov w' base x y c := ⟨h.1.below hb, h.2.below hb⟩
theorem Ov.put {w : World} {base : Nat} {x y u v : Value} {c : Ct} (h : Ov w base x y c) {g : Nat} (hg : g < base) : Ov ((w.setCell ⟨g, 0, none⟩ u).setCell ⟨g, 1, none⟩ v) base x y c :=
  ⟨OD.set (OD.set h.1 g 0 u hg) g 1 v hg, OD.set (OD.set h.2 g 0 u hg) g 1 v hg⟩
theorem Ov.mono {w : World} {base base' : Nat} {x y : Value} {c : Ct} (h : Ov w base x y c) (hb : base' ≤ base) : Ov w base' x y c :=
  ⟨h.1.mono fun k hk => Nat.le_trans hb (h.1.lt k hk).1, h.2.mono fun k hk => Nat.le_trans hb (h.2.lt k hk).1⟩
theorem Ov.nil (w : World) (base : Nat) : Ov w base (.slice none 0 0) (.slice none 0 0) ([], []) := ⟨OD.nil _ _ _, OD.nil _ _ _⟩
theorem Ov.shape {w : World} {base : Nat} {x y : Value} {c : Ct} (h : Ov w base x y c) : ∃ a n b m, x = .slice a c.1.length n ∧ y = .slice b c.2.length m := by
  obtain ⟨a, n, e, -⟩ := h.1.row
  obtain ⟨b, m, e2, -⟩ := h.2.row
  exact ⟨a, n, b, m, e, e2⟩

set_option maxRecDepth 100000 in
set_option maxHeartbeats 1000000 in
theorem compact_any (xs ys : List Dt) (a b : Option Addr) (n m : Nat) (w : World) (hx : RowD w a xs) (hy : RowD w b ys) (hna : a = none → n = 0) (hlx : xs.length ≤ 900000) (hly : ys.length ≤ 900000) :
    Calls Tryz.prog 113 #[cv (.slice a xs.length n) (.slice b ys.length m)] w fun e w' => ∃ x y, e = .returned (.tuple #[cv x y, .int .i64 (compB (xs, ys)).2]) ∧ Ov w' w.heap.size x y (compB (xs, ys)).1 ∧ Below w.heap.size w w' := by
  have HV := Lib.hid (fun w h1 h2 => valid_any xs ys a b n m w h1 h2 (by omega) (by omega))
  have HC := Lib.hid (fun w hv h1 h2 => compacted_any xs ys a b n m w ((valid_vc (xs, ys)).1 hv) h1 h2 hna hlx hly)
  have HN : Hid (validC (xs, ys) = false → compB (xs, ys) = (([], []), 2)) := fun h => by unfold compB; rw [h]; rfl
  have HY : Hid (validC (xs, ys) = true → compB (xs, ys) = (compC (xs, ys), 0)) := fun h => by unfold compB; rw [if_pos h]
  have HT := Lib.hid (two_new w (.slice a xs.length n) (.slice b ys.length m))
  have HB := Lib.hid (bel_box w (cbox (.slice a xs.length n) (.slice b ys.length m)))
  have hb := bel_box (w.alloc (cbox (.slice a xs.length n) (.slice b ys.length m))) (cbox (.slice none 0 0) (.slice none 0 0))
  have HW := Lib.hid (wc_new (w.alloc (cbox (.slice a xs.length n) (.slice b ys.length m))))
  have hsz : (w.alloc (cbox (.slice a xs.length n) (.slice b ys.length m))).heap.size = w.heap.size + 1 := by simp
  rw [hsz] at HW
  replace HT := Lib.hid (HT.out.keep hb)
  replace HB := bel_tr HB hb
  have HX := Lib.hid (hx.keep HB.out)
  have HYr := Lib.hid (hy.keep HB.out)
  clear hx hy hna hlx hly hsz hb
  generalize compB (xs, ys) = R at *
  generalize compC (xs, ys) = C at *
  have k0 := HT.out.1
  have k1 := HT.out.2
  go_enter Tryz.func113, Tryz.ntmps113
  go_wp2_with fail
  generalize (w.alloc (cbox (.slice a xs.length n) (.slice b ys.length m))).alloc (cbox (.slice none 0 0) (.slice none 0 0)) = w1 at *
  refine (HV.out _ HX.out HYr.out).mono ?_
  rintro e w2 ⟨rfl, hb⟩
  replace HT := Lib.hid (HT.out.keep hb)
  replace HW := Lib.hid (HW.out.keep hb)
  replace HX := Lib.hid (HX.out.keep hb)
  replace HYr := Lib.hid (HYr.out.keep hb)
  replace HB := bel_tr HB hb
  clear hb k0 k1 HV
  rcases hv : validC (xs, ys) with _ | _
  · have hR := HN.out hv
    subst hR
    clear hv HN HY HC
    obtain ⟨⟨u0, r0⟩, r1⟩ := HW.out 0 (by omega)
    obtain ⟨⟨u1, r2⟩, r3⟩ := HW.out 1 (by omega)
    have HP := Lib.hid (put_two (x := .slice none 0 0) (y := .slice none 0 0) HW.out)
    have HB2 := Lib.hid (below_put (g := w.heap.size + 1) (x := .slice none 0 0) (y := .slice none 0 0) HB.out (by omega))
    go_wp2_with fail
    generalize (w2.setCell ⟨w.heap.size + 1, 0, none⟩ (.slice none 0 0)).setCell ⟨w.heap.size + 1, 1, none⟩ (.slice none 0 0) = W at *
    have q0 := HP.out.1
    have q1 := HP.out.2
    (try simp only [Exit.inBlock, Exit.then])
    refine bodyPost_ret (v := .tuple #[cv (.slice none 0 0) (.slice none 0 0), .int .i64 2]) (by rw [results_cell_tmp (fn := Tryz.f113) (p := 2) (u := 3) (ty := 51) rfl]; go_simp) rfl ?_
    exact ⟨_, _, rfl, Ov.nil _ _, HB2.out⟩
  · have hR := HY.out hv
    subst hR
    have HC2 := Lib.hid (HC.out w2 hv HX.out HYr.out)
    clear hv HN HY HC
    have k0 := HT.out.1
    have k1 := HT.out.2
    go_wp2_with fail
    refine HC2.out.mono ?_
    rintro e w3 ⟨x, y, rfl, ho1, ho2, hb⟩
    have HO : Hid (Ov w3 w2.heap.size x y C) := ⟨ho1, ho2⟩
    have hl := HW.out.lt
    replace HW := Lib.hid (HW.out.keep hb)
    have HB3 := bel_tr HB hb
    obtain ⟨⟨u0, r0⟩, r1⟩ := HW.out 0 (by omega)
    obtain ⟨⟨u1, r2⟩, r3⟩ := HW.out 1 (by omega)
    obtain ⟨a4, n4, b4, m4, rfl, rfl⟩ := HO.out.shape
    have HP := Lib.hid (put_two (x := .slice a4 C.1.length n4) (y := .slice b4 C.2.length m4) HW.out)
    have HO2 := Lib.hid ((HO.out.put (g := w.heap.size + 1) (u := .slice a4 C.1.length n4) (v := .slice b4 C.2.length m4) hl).mono HB.out.size)
    have HB4 := Lib.hid (below_put (g := w.heap.size + 1) (x := .slice a4 C.1.length n4) (y := .slice b4 C.2.length m4) HB3.out (by omega))
    clear ho1 ho2 hb HC2 k0 k1 hl HO
    go_wp2_with fail
    generalize (w3.setCell ⟨w.heap.size + 1, 0, none⟩ (.slice a4 C.1.length n4)).setCell ⟨w.heap.size + 1, 1, none⟩ (.slice b4 C.2.length m4) = W at *
    have q0 := HP.out.1
    have q1 := HP.out.2
    (try simp only [Exit.inBlock, Exit.then])
    refine bodyPost_ret (v := .tuple #[cv (.slice a4 C.1.length n4) (.slice b4 C.2.length m4), .int .i64 0]) (by rw [results_cell_tmp (fn := Tryz.f113) (p := 2) (u := 3) (ty := 51) rfl]; go_simp) rfl ?_
    exact ⟨_, _, rfl, HO2.out, HB4.out⟩

end Go.Proofs.YtfpfihmihlmobaaGreat.F
end

/-
  The program's Of and Add.
-/
section
namespace Go.Proofs.YtfpfihmihlmobaaGreat.F
set_option linter.unusedVariables false
open Go.RowKit V Go.Sort D
open E (SV SV.of_od)

set_option maxRecDepth 100000 in
set_option maxHeartbeats 1000000 in
theorem of_any6 (l : List Dt) (a : Option Addr) (c : Nat) (w : World) (hx : RowD w a l) (hlx : l.length ≤ 400000) :
    Calls Tryz.prog 89 #[.slice a l.length c] w fun e w' => ∃ x y, e = .returned (.tuple #[cv x y, .int .i64 (madeB l).2]) ∧ Ov w' w.heap.size x y (madeB l).1 ∧ Below w.heap.size w w' := by
  have HS := Lib.hid (fun w h => set_any l a c w h (by omega))
  have HSl := Lib.hid (Nat.le_trans (set_len l) hlx)
  have HC := Lib.hid (fun b m w h => compact_any [] (setR l) none b 0 m w (.inl rfl) h (fun _ => rfl) (by simp) (Nat.le_trans (set_len l) (by omega)))
  have HR : Hid (compB ([], setR l) = madeB l) := rfl
  rw [HR.out] at HC
  have HW := Lib.hid (wc_new w)
  have HB := Lib.hid (bel_box w (cbox (.slice none 0 0) (.slice none 0 0)))
  have HX := Lib.hid (hx.keep HB.out)
  clear hx hlx HR
  generalize madeB l = R at *
  generalize setR l = s at *
  go_enter Tryz.func89, Tryz.ntmps89
  go_wp2_with fail
  generalize w.alloc (cbox (.slice none 0 0) (.slice none 0 0)) = w1 at *
  refine (HS.out _ HX.out).mono ?_
  rintro e w2 ⟨v2, rfl, hsv, hb⟩
  obtain ⟨a2, c2, rfl, -, hr⟩ := hsv.row
  replace HW := Lib.hid (HW.out.keep hb)
  replace HB := bel_tr HB hb
  have HC2 := Lib.hid (HC.out a2 c2 w2 hr)
  have hl := HW.out.lt
  clear hsv hb hr HS HC
  go_wp2_with fail
  refine HC2.out.mono ?_
  rintro e w3 ⟨x, y, rfl, ho, hb⟩
  have HO := Lib.hid ho
  have HBs := Lib.hid HB.out.size
  replace HW := Lib.hid (HW.out.keep hb)
  have HB3 := bel_tr HB hb
  obtain ⟨⟨u0, r0⟩, r1⟩ := HW.out 0 (by omega)
  obtain ⟨⟨u1, r2⟩, r3⟩ := HW.out 1 (by omega)
  obtain ⟨a6, n6, b6, m6, rfl, rfl⟩ := HO.out.shape
  have HP := Lib.hid (put_two (x := .slice a6 R.1.1.length n6) (y := .slice b6 R.1.2.length m6) HW.out)
  have HO2 := Lib.hid ((HO.out.put (g := w.heap.size) (u := .slice a6 R.1.1.length n6) (v := .slice b6 R.1.2.length m6) hl).mono HBs.out)
  have HB4 := Lib.hid (below_put (g := w.heap.size) (x := .slice a6 R.1.1.length n6) (y := .slice b6 R.1.2.length m6) HB3.out (Nat.le_refl _))
  clear ho hb HC2 hl HO
  go_wp2_with fail
  generalize (w3.setCell ⟨w.heap.size, 0, none⟩ (.slice a6 R.1.1.length n6)).setCell ⟨w.heap.size, 1, none⟩ (.slice b6 R.1.2.length m6) = W at *
  have q0 := HP.out.1
  have q1 := HP.out.2
  (try simp only [Exit.inBlock, Exit.then])
  refine bodyPost_ret (v := .tuple #[cv (.slice a6 R.1.1.length n6) (.slice b6 R.1.2.length m6), .int .i64 R.2]) (by rw [results_cell_tmp (fn := Tryz.f89) (p := 2) (u := 3) (ty := 51) rfl]; go_simp) rfl ?_
  exact ⟨_, _, rfl, HO2.out, HB4.out⟩

/-- A box of two slices, as a class of worlds. -/
def Sb (g : Nat) (x y : Value) (w : World) : Prop := Bc w g x y
theorem Sb.l {g : Nat} {x y : Value} : ∀ w, Sb g x y w → (Instr.loadAt 51 (.pointer (some ⟨g, 0, none⟩))).run Tryz.prog w = .ok (cv x y) w := fun w h => load_ctx h
theorem load_v {w : World} {g i : Nat} {z : Value} (h : w.cell? ⟨g, i, none⟩ = some z) : (Instr.loadAt 49 (.pointer (some ⟨g, i, none⟩))).run Tryz.prog w = .ok z w := by
  go_simp
theorem load_d {w : World} {g i : Nat} {z : Value} (h : w.cell? ⟨g, i, none⟩ = some z) : (Instr.loadAt 43 (.pointer (some ⟨g, i, none⟩))).run Tryz.prog w = .ok z w := by
  go_simp
theorem Sb.l0 {g : Nat} {x y : Value} : ∀ w, Sb g x y w → (Instr.loadAt 49 (.pointer (some ⟨g, 0, none⟩))).run Tryz.prog w = .ok x w := fun w h => load_v h.1
theorem Sb.l1 {g : Nat} {x y : Value} : ∀ w, Sb g x y w → (Instr.loadAt 43 (.pointer (some ⟨g, 1, none⟩))).run Tryz.prog w = .ok y w := fun w h => load_d h.2
theorem Sb.keep {g : Nat} {x y : Value} {w w' : World} (h : Sb g x y w) (hb : Below w.heap.size w w') : Sb g x y w' := Bc.keep h hb
theorem Bc.set {w : World} {g h i : Nat} {x y z : Value} (k : Bc w g x y) (hne : g ≠ h) : Bc (w.setCell ⟨h, i, none⟩ z) g x y :=
  ⟨(World.cell?_setCell_other _ _ _ _ (by first | exact hne | (simp [hne]; done) | (simp; omega))).trans k.1, (World.cell?_setCell_other _ _ _ _ (by first | exact hne | (simp [hne]; done) | (simp; omega))).trans k.2⟩

end Go.Proofs.YtfpfihmihlmobaaGreat.F
end

/-
  The program's IsCompact and Within.
-/
section
namespace Go.Proofs.YtfpfihmihlmobaaGreat.F
set_option linter.unusedVariables false
open Go.RowKit V Go.Sort D
open E (SV SV.of_od Cm Vd getV get_ge hasV withinV orderR ordR)

theorem ask_near {w : World} {g B : Nat} {f : Nat → Int} {xs ys : List Dt} (hv : Vc (xs, ys)) (hf : ∀ i : Nat, f i = getV xs i) (hC : Cm w g f) (hb : w.cell? ⟨B, 0, none⟩ = some (.pointer (some ⟨g, 0, none⟩))) :
    Ask w 145 #[.pointer (some ⟨B, 0, none⟩)] ys (fun d => decide (d.2 ≤ getV xs d.1 + 1)) := fun W hW d hd => by
  have hd2 := valid_iff.1 (hv.2.2 d hd)
  have e : f d.1.toNat = getV xs d.1 := by rw [hf, Int.toNat_of_nonneg (by omega)]
  exact near_any d f (getV xs d.1) g B W e ⟨by omega, hd2.2.1⟩ ⟨get_ge hv.1 _, get_le hv.1 _⟩ (hC.keep hW) ((hW.cell (p := ⟨B, 0, none⟩) (lt_of_cell hb)).trans hb)

/-- Two boxes, as a class of worlds. -/
def Sb2 (g h : Nat) (x y u v : Value) (w : World) : Prop := Bc w g x y ∧ Bc w h u v
theorem Sb2.keep {g h : Nat} {x y u v : Value} {w w' : World} (k : Sb2 g h x y u v w) (hb : Below w.heap.size w w') : Sb2 g h x y u v w' := ⟨k.1.keep hb, k.2.keep hb⟩
theorem Sb2.l {g h : Nat} {x y u v : Value} : ∀ w, Sb2 g h x y u v w → (Instr.loadAt 51 (.pointer (some ⟨h, 0, none⟩))).run Tryz.prog w = .ok (cv u v) w := fun w k => load_ctx k.2
theorem Sb2.la {g h : Nat} {x y u v : Value} : ∀ w, Sb2 g h x y u v w → (Instr.loadAt 51 (.pointer (some ⟨g, 0, none⟩))).run Tryz.prog w = .ok (cv x y) w := fun w k => load_ctx k.1
theorem Sb2.l1 {g h : Nat} {x y u v : Value} : ∀ w, Sb2 g h x y u v w → (Instr.loadAt 43 (.pointer (some ⟨g, 1, none⟩))).run Tryz.prog w = .ok y w := fun w k => load_d k.1.2
theorem Sb2.l0 {g h : Nat} {x y u v : Value} : ∀ w, Sb2 g h x y u v w → (Instr.loadAt 49 (.pointer (some ⟨g, 0, none⟩))).run Tryz.prog w = .ok x w := fun w k => load_v k.1.1
theorem Sb2.r1 {g h : Nat} {x y u v : Value} : ∀ w, Sb2 g h x y u v w → (Instr.loadAt 43 (.pointer (some ⟨h, 1, none⟩))).run Tryz.prog w = .ok v w := fun w k => load_d k.2.2
theorem Sb2.r0 {g h : Nat} {x y u v : Value} : ∀ w, Sb2 g h x y u v w → (Instr.loadAt 49 (.pointer (some ⟨h, 0, none⟩))).run Tryz.prog w = .ok u w := fun w k => load_v k.2.1

end Go.Proofs.YtfpfihmihlmobaaGreat.F
end

/-
  The program's Missing and Size.
-/
section
namespace Go.Proofs.YtfpfihmihlmobaaGreat.F
set_option linter.unusedVariables false
open Go.RowKit V Go.Sort D
open E (SV SV.of_od Cm Vd getV get_ge hasV)

set_option maxRecDepth 100000 in
set_option maxHeartbeats 1000000 in
theorem missing_any (xs ys l : List Dt) (a b p : Option Addr) (n m j : Nat) (w : World) (hx : RowD w a xs) (hy : RowD w b ys) (hl : RowD w p l) (hlx : xs.length ≤ 1000000) (hly : ys.length ≤ 1000000) (hll : l.length ≤ 1000000) :
    Calls Tryz.prog 39 #[cv (.slice a xs.length n) (.slice b ys.length m), .slice p l.length j] w fun e w' => ∃ v, e = .returned v ∧ OD w' w.heap.size E v (missR (xs, ys) l) ∧ Below w.heap.size w w' := by
  have HMf := Lib.hid (fun w h1 h2 => missingFrom_any xs ys a b n m w h1 h2 hlx hly)
  have HS := Lib.hid (fun w h => set_any l p j w h hll)
  have HSl := Lib.hid (Nat.le_trans (set_len l) hll)
  have HR : Hid ((setR l).filter (fun d => !hasC (xs, ys) d) = missR (xs, ys) l) := miss_filter _ _
  have HT := Lib.hid (two_new w (.slice a xs.length n) (.slice b ys.length m))
  have HB := Lib.hid (bel_box w (cbox (.slice a xs.length n) (.slice b ys.length m)))
  have HX := Lib.hid (hx.keep HB.out)
  have HYr := Lib.hid (hy.keep HB.out)
  have HL := Lib.hid (hl.keep HB.out)
  clear hx hy hl hlx hly hll
  generalize hP : (fun d => !hasC (xs, ys) d) = P at *
  clear hP
  generalize missR (xs, ys) l = R at *
  generalize setR l = s at *
  have hls : (s.length : Int) ≤ 1000000 := by have := HSl.out; omega
  have k0 := HT.out.1
  have k1 := HT.out.2
  go_enter Tryz.func39, Tryz.ntmps39
  go_wp2_with fail
  generalize w.alloc (cbox (.slice a xs.length n) (.slice b ys.length m)) = w1 at *
  refine (HMf.out _ HX.out HYr.out).mono ?_
  rintro e w2 ⟨g, h, rfl, hask, hb⟩
  have HAsk := Lib.hid (hask s)
  replace HL := Lib.hid (HL.out.keep hb)
  replace HB := bel_tr HB hb
  clear hask hb HMf k0 k1 HT HX HYr
  go_wp2_with fail
  refine (HS.out _ HL.out).mono ?_
  rintro e w3 ⟨v, rfl, hsv, hb⟩
  obtain ⟨a2, c2, rfl, -, hr⟩ := hsv.row
  have HRr := Lib.hid hr
  replace HAsk := Lib.hid (HAsk.out.keep hb)
  replace HB := bel_tr HB hb
  clear hsv hb hr HS HL
  have eg := enters_miss
  go_wp2_with fail
  go_loopw [6, 8, 14] (fun v _ i wr => ∃ k : Nat, k ≤ s.length ∧ i = .int .i64 (k : Int) ∧ Hid (Below w3.heap.size w3 wr) ∧ Hid (OD wr w3.heap.size E v ((s.take k).filter P))) (fun _ _ i _ => s.length - (intOf i).toNat)
  case atStart => exact ⟨0, Nat.zero_le _, rfl, Below.refl _ _, by show OD _ _ _ _ _; rw [List.take_zero]; exact OD.nil _ _ _⟩
  case round =>
    obtain ⟨k, hk, rfl, hh, HO⟩ := hrel
    by_cases hlt : k < s.length
    · have hi1 : (k : Int) < (s.length : Int) := by omega
      obtain ⟨b1, o1, rfl, p0, p1⟩ := HRr.out.get hh.out k hlt
      have HF := Lib.hid (filter_take hlt P)
      have hBa := bel_box wr (Obj.cells #[.int .i64 s[k].1, .int .i64 s[k].2] 33)
      have HQ := Lib.hid (HAsk.out (wr.alloc (Obj.cells #[.int .i64 s[k].1, .int .i64 s[k].2] 33)) (hh.out.trans (hBa.mono hh.out.size)) s[k] (List.getElem_mem hlt))
      have HK : Hid (Bd wr.heap.size s[k].1 s[k].2 (wr.alloc (Obj.cells #[.int .i64 s[k].1, .int .i64 s[k].2] 33))) := by refine ⟨?_, ?_⟩ <;> go_simp
      obtain ⟨q, hq⟩ : ∃ q, q = s[k] := ⟨_, rfl⟩
      rw [← hq] at p0 p1 HF hBa HQ HK
      clear hq
      have HO1 := Lib.hid (HO.out.below hBa)
      have HB1 := bel_tr hh hBa
      have HFl : Hid (((s.take k).filter P).length ≤ 1000000) := by
        show _ ≤ _
        have h1 := List.length_filter_le P (s.take k)
        rw [List.length_take] at h1
        have := HSl.out
        omega
      obtain ⟨q1, q2⟩ := q
      simp only at p0 p1 hBa HK
      clear hBa
      go_wp2_with fail
      generalize wr.alloc (Obj.cells #[.int .i64 q1, .int .i64 q2] 33) = w5 at *
      refine HQ.out.mono ?_
      rintro e w6 ⟨rfl, hb⟩
      replace HK := Lib.hid (HK.out.keep hb)
      replace HO1 := Lib.hid (HO1.out.below hb)
      replace HB1 := bel_tr HB1 hb
      clear hb HQ p0 p1
      have k0 := HK.out.1
      have k1 := HK.out.2
      rcases hpq : P (q1, q2) with _ | _
      · have hf := HF.out
        rw [hpq, if_neg (by simp)] at hf
        replace HF := Lib.hid hf
        clear hf hpq
        go_wp2_with fail
        go_roundw
        case rel => exact ⟨k + 1, by omega, by go_num, HB1, by show OD _ _ _ _ _; rw [HF.out]; exact HO1.out⟩
        case measure => simp [intOf]; omega
      · have hf := HF.out
        rw [hpq, if_pos rfl] at hf
        replace HF := Lib.hid hf
        clear hf hpq
        have hBa := bel_box w6 (Obj.cells #[.int .i64 q1, .int .i64 q2] 33)
        have HBs := Lib.hid HB1.out.size
        have HB2 := bel_tr HB1 hBa
        go_wp2_with (at_builtin; refine wpList_appD rfl _ _ _ rfl Tryz.underlying43 infoD _ _ rfl (HO1.out.below hBa) (some ⟨w6.heap.size, 0, none⟩) [(q1, q2)] 1 rfl (lit_one w6 (q1, q2) _) (fun h => by cases h) (by have := HFl.out; simp; omega) HB2.out.size ?_)
        intro v7 w7 ho hg _
        have HO7 : Hid (OD w7 w3.heap.size E v7 ((s.take k).filter P ++ [(q1, q2)])) := ho
        have HB7 := Lib.hid (HB2.out.grown hg HB2.out.size (fun k hk => (HO1.out.lt k hk).1))
        clear ho hg hBa k0 k1
        go_wp2_with fail
        go_roundw
        case rel => exact ⟨k + 1, by omega, by go_num, HB7, by show OD _ _ _ _ _; rw [HF.out]; exact HO7.out⟩
        case measure => simp [intOf]; omega
    · obtain rfl : k = s.length := by omega
      have hi1 : ¬ (s.length : Int) < (s.length : Int) := by omega
      rw [List.take_length, HR.out] at HO
      have HO2 : Hid (OD wr w.heap.size E u6 R) := HO.out.mono fun k hk => Nat.le_trans HB.out.size (HO.out.lt k hk).1
      have HB2 := bel_tr HB hh.out
      go_wp2_with fail
      go_ret
      exact ⟨_, rfl, HO2.out, HB2.out⟩

/-! ### Size -/
theorem sum_take {v : List Dt} {k : Nat} (h : k < v.length) : sumV (v.take (k + 1)) = sumV (v.take k) + v[k].2 := by
  unfold sumV
  rw [List.take_succ_eq_append_getElem h, List.map_append, List.sum_append]
  simp
theorem sum_le : ∀ (v : List Dt), (∀ x ∈ v, 0 ≤ x.2 ∧ x.2 ≤ 4294967295) → 0 ≤ sumV v ∧ sumV v ≤ 4294967295 * (v.length : Int)
  | [], _ => by simp [sumV]
  | d :: t, h => by
    have h1 := h d (by simp)
    have h2 := sum_le t fun x hx => h x (by simp [hx])
    rw [sum_cons, List.length_cons]
    push_cast
    omega
/-- How many of the first dots are not in the vector. -/
def cntN (xs ys : List Dt) (k : Nat) : Int := (((ys.take k).filter fun d => !hasV xs d).length : Int)
theorem cntN_succ {xs ys : List Dt} {k : Nat} (h : k < ys.length) : cntN xs ys (k + 1) = cntN xs ys k + if hasV xs ys[k] = true then 0 else 1 := by
  unfold cntN
  rw [filter_take h]
  rcases hasV xs ys[k] with _ | _
  · simp
  · simp
theorem cntN_le (xs ys : List Dt) (k : Nat) : 0 ≤ cntN xs ys k ∧ cntN xs ys k ≤ k := by
  unfold cntN
  have h1 := List.length_filter_le (fun d => !hasV xs d) (ys.take k)
  rw [List.length_take] at h1
  omega
theorem size_eq (xs ys : List Dt) : sizeC (xs, ys) = sumV xs + cntN xs ys ys.length := by
  unfold cntN sizeC
  rw [List.take_length]
theorem wrap_u64 {z : Int} (h : 0 ≤ z ∧ z ≤ 1000000000000) : IntKind.u64.wrap z = z := by simp [IntKind.wrap, IntKind.bits, IntKind.signed]; omega
end Go.Proofs.YtfpfihmihlmobaaGreat.F
end

/-
  Size: the program's.
-/
section
namespace Go.Proofs.YtfpfihmihlmobaaGreat.F
set_option linter.unusedVariables false
open Go.RowKit V Go.Sort D
open E (SV SV.of_od Cm Vd getV get_ge hasV)

def sizeB (c : Ct) : Int := if validC c = true then sizeC c else 0

end Go.Proofs.YtfpfihmihlmobaaGreat.F
end
end

/-
  The reference: its functions one after the other.
-/
section
/-
  The reference's Compact.
-/
section
namespace Go.Proofs.YtfpfihmihlmobaaGreat.F
set_option linter.unusedVariables false
open Go.RowKit V Go.Sort D
open E (SV SV.nil SV.keep SV.of_od Vd getV get_ge hasV raiseR raiseR_len getG_ref lays_alloc lays_tr lays_refl)

theorem SV.sh {w : World} {x : Value} {l : List Dt} (h : SV w x l) : ∃ a n, x = .slice a l.length n ∧ RowD w a l ∧ (a = none → n = 0) ∧ l.length ≤ n := h
theorem put_bel {w : World} {g : Nat} {x y : Value} {B : Nat} (hB : B ≤ g) : Below B w ((w.setCell ⟨g, 0, none⟩ x).setCell ⟨g, 1, none⟩ y) := below_put (Below.refl _ _) hB

theorem wc_box (w : World) (x y : Value) : Wc (w.alloc (cbox x y)) w.heap.size := by
  have hh : (w.alloc (cbox x y)).heap[w.heap.size]? = some (.cells #[x, y] 51 (0, 0)) := by show (w.heap.push _)[w.heap.size]? = _; simp
  intro i hi
  have hf : (w.alloc (cbox x y)).frozen? ⟨w.heap.size, i, none⟩ = false := by
    unfold World.frozen?
    rw [show (⟨w.heap.size, i, none⟩ : Addr).block = w.heap.size from rfl, hh]
    simp
  have k := two_new w x y
  rcases i with _ | _ | i
  · exact ⟨⟨_, k.1⟩, hf⟩
  · exact ⟨⟨_, k.2⟩, hf⟩
  · omega
/-- A slice that lies in neither of two blocks. -/
def Far (h : Nat) (v : Value) : Prop := ∀ g, v.ownBlock = some g → g ≠ h ∧ g ≠ h + 1
theorem SV.put {w : World} {v z : Value} {l : List Dt} (k : SV w v l) {g i : Nat} (hf : l ≠ [] → ∀ b, v.ownBlock = some b → b ≠ g) : SV (w.setCell ⟨g, i, none⟩ z) v l := by
  obtain ⟨a, n, rfl, hr, h1, h2⟩ := k
  refine ⟨a, n, rfl, ?_, h1, h2⟩
  by_cases he : l = []
  · exact .inl he
  · refine hr.of_heap fun b hb _ => ?_
    obtain ⟨o, rfl⟩ := hb
    exact Below.heap_setCell w ⟨g, i, none⟩ z b (hf he b rfl)

set_option maxRecDepth 100000 in
set_option maxHeartbeats 2000000 in
theorem compact_ref (xs ys : List Dt) (a b : Option Addr) (n m : Nat) (w : World) (hv : Vc (xs, ys)) (hx : RowD w a xs) (hy : RowD w b ys) (hna : a = none → n = 0) (hla : xs.length ≤ n) (hnb : b = none → m = 0) (hlb : ys.length ≤ m) (hlx : xs.length ≤ 100) (hly : ys.length ≤ 900000) :
    Calls Tryz.prog 85 #[cv (.slice a xs.length n) (.slice b ys.length m)] w fun e w' => ∃ x y, e = .returned (cv x y) ∧ SV w' x (compC (xs, ys)).1 ∧ SV w' y (compC (xs, ys)).2 ∧ Below w.heap.size w w' := by
  have HI := Lib.hid (fun w h1 h2 => isCompact_ref xs ys a b n m w h1 h2 (by omega) (by omega))
  have HI2 := Lib.hid (fun a b n m w h1 h2 (hl1 : (compC (xs, ys)).1.length ≤ 1000000) (hl2 : (compC (xs, ys)).2.length ≤ 1000000) => isCompact_ref (compC (xs, ys)).1 (compC (xs, ys)).2 a b n m w h1 h2 hl1 hl2)
  have hok : isCompR ((compC (xs, ys)).1, (compC (xs, ys)).2) = true := (comp_ok hv).1
  rw [hok] at HI2
  have HSf : Hid (isCompR (xs, ys) = true → compC (xs, ys) = (xs, ys)) := fun h => comp_self h
  have HT := Lib.hid (two_new w (.slice a xs.length n) (.slice b ys.length m))
  have HB := Lib.hid (bel_box w (cbox (.slice a xs.length n) (.slice b ys.length m)))
  have hb := bel_box (w.alloc (cbox (.slice a xs.length n) (.slice b ys.length m))) (cbox (.slice none 0 0) (.slice none 0 0))
  have HW := Lib.hid (wc_new (w.alloc (cbox (.slice a xs.length n) (.slice b ys.length m))))
  have hsz : (w.alloc (cbox (.slice a xs.length n) (.slice b ys.length m))).heap.size = w.heap.size + 1 := by simp
  rw [hsz] at HW
  have HWb := Lib.hid ((wc_box w (.slice a xs.length n) (.slice b ys.length m)).keep hb)
  replace HT := Lib.hid (HT.out.keep hb)
  replace HB := bel_tr HB hb
  have HX := Lib.hid (hx.keep HB.out)
  have HYr := Lib.hid (hy.keep HB.out)
  have hx0 := Lib.hid hx
  have hy0 := Lib.hid hy
  have HNa := Lib.hid hna
  have HNb := Lib.hid hnb
  have HLa := Lib.hid hla
  have HLb := Lib.hid hlb
  have HV := Lib.hid hv
  have HLx := Lib.hid hlx
  have HLy := Lib.hid hly
  clear hx hy hsz hb hna hnb hla hlb hv hok hlx hly
  have HEnd0 : Hid ((stK xs ys ys.length).1 = compC (xs, ys)) := stK_end xs ys
  have hlj : (ys.length : Int) ≤ 900000 := by have := HLy.out; omega
  generalize compC (xs, ys) = C at *
  have k0 := HT.out.1
  have k1 := HT.out.2
  go_enter Tryz.func85, Tryz.ntmps85
  go_wp2_with fail
  generalize (w.alloc (cbox (.slice a xs.length n) (.slice b ys.length m))).alloc (cbox (.slice none 0 0) (.slice none 0 0)) = w1 at *
  refine wp_loop_rounds 3 ?_
  rw [rounds_succ]
  go_wp2_with fail
  refine (HI.out _ HX.out HYr.out).mono ?_
  rintro e w2 ⟨rfl, hb⟩
  replace HT := Lib.hid (HT.out.keep hb)
  replace HW := Lib.hid (HW.out.keep hb)
  replace HWb := Lib.hid (HWb.out.keep hb)
  replace HX := Lib.hid (HX.out.keep hb)
  replace HYr := Lib.hid (HYr.out.keep hb)
  replace HB := bel_tr HB hb
  have HWl := Lib.hid HW.out.lt
  clear hb k0 k1 HI
  have k0 := HT.out.1
  have k1 := HT.out.2
  rcases hc : isCompR (xs, ys) with _ | _
  · have HEnd : Hid ((stK xs ys ys.length).1 = C) := HEnd0.out
    have hne : False ∨ True := .inr trivial
    clear HSf hne
    go_wp2_with fail
    clear k0 k1
    go_loopw [3, 4, 5, 6, 28, 32] (fun u v i _ _ _ wr => ∃ k : Nat, k ≤ ys.length ∧ i = .int .i64 (k : Int) ∧ Hid (Below w2.heap.size w2 wr) ∧ Hid (OD wr w2.heap.size E u (stK xs ys k).1.2) ∧ Hid (SV wr v (stK xs ys k).1.1) ∧ Hid ((stK xs ys k).1.1 ≠ [] → Apt v u ∧ Far w.heap.size v)) (fun _ _ i _ _ _ _ => ys.length - (intOf i).toNat)
    case atStart => exact ⟨0, Nat.zero_le _, rfl, Below.refl _ _, OD.nil _ _ _, ⟨a, n, rfl, HX.out, HNa.out, HLa.out⟩, fun he => ⟨Apt.none _, fun g hg => by
      rcases a with _ | x
      · cases hg
      · cases hg
        obtain ⟨b', o', e', hcell⟩ := hx0.out.resolve_left he
        cases e'
        have hl := lt_of_cell (hcell 0 (List.length_pos_iff.2 he)).1
        simp only at hl
        exact ⟨by show b' ≠ _; omega, by show b' ≠ _; omega⟩⟩⟩
    case round =>
      obtain ⟨k, hk, rfl, hh, HO, HS, HA⟩ := hrel
      have mixed := mixed
      by_cases hlt : k < ys.length
      · have hi1 : (k : Int) < (ys.length : Int) := by omega
        obtain ⟨b1, o1, rfl, p0, p1⟩ := HYr.out.get hh.out k hlt
        have hIk := inv_all HV.out.1 HV.out.2.2 k hk
        have HVd := Lib.hid hIk.vd
        have HRl := Lib.hid hIk.rl
        have HSt : Hid ((stK xs ys (k + 1)).1 = stp (stK xs ys k).1 ys[k]) := by show _ = _; rw [stK_succ hlt]; rfl
        have hvd := HV.out.2.2 ys[k] (List.getElem_mem hlt)
        obtain ⟨q, hq⟩ : ∃ q, q = ys[k] := ⟨_, rfl⟩
        rw [← hq] at p0 p1 HSt hvd
        have HQv := Lib.hid hvd
        clear hq hIk hvd
        obtain ⟨⟨s1, s2⟩, hs⟩ : ∃ s, s = (stK xs ys k).1 := ⟨_, rfl⟩
        rw [← hs] at HO HS HVd HRl HSt HA
        simp only at HO HS HVd HRl HA
        obtain ⟨av, nv, rfl, hrv, hnv, hlv⟩ := HS.out
        have hlen : s1.length ≤ 64 := E.vd_len HVd.out
        have HLen := Lib.hid hlen
        have hBa := bel_box wr (Obj.cells #[.int .i64 q.1, .int .i64 q.2] 33)
        have HB1 := bel_tr hh hBa
        have HT1 := Lib.hid (HT.out.keep HB1.out)
        have HO1 := Lib.hid (HO.out.below hBa)
        have HR1 := Lib.hid (hrv.keep hBa)
        have HNv := Lib.hid hnv
        have HLv := Lib.hid hlv
        have HK : Hid (Bd wr.heap.size q.1 q.2 (wr.alloc (Obj.cells #[.int .i64 q.1, .int .i64 q.2] 33))) := by refine ⟨?_, ?_⟩ <;> go_simp
        have HH := Lib.hid (E.has_ref s1 q av nv _ HR1.out (by omega))
        have k1 := (hh.out.cell (p := ⟨_, _, none⟩) (lt_of_cell HT.out.2)).trans HT.out.2
        clear hBa hrv hnv hlv hlen hs
        obtain ⟨q1, q2⟩ := q
        simp only at p0 p1 HB1 HO1 HR1 HK HH
        go_wp2_with fail
        generalize wr.alloc (Obj.cells #[.int .i64 q1, .int .i64 q2] 33) = w5 at *
        refine HH.out.mono ?_
        rintro e w6 ⟨rfl, hl⟩
        have hb := hl.bel
        replace HB1 := bel_tr HB1 hb
        replace HO1 := Lib.hid (HO1.out.below hb)
        replace HR1 := Lib.hid (HR1.out.keep hb)
        replace HK := Lib.hid (HK.out.keep hb)
        clear hl hb HH k1 p0 p1
        rcases hhv : hasV s1 (q1, q2) with _ | _
        · have hg0 := get_ge HVd.out q1
          have hg1 := get_le HVd.out q1
          have HGt := Lib.hid (fun nn os => getG_ref s1 q1 av nv w6 HR1.out (by have := HLen.out; omega) nn os)
          have HRs := Lib.hid (fun w h => raise_new s1 (q1, q2) av nv w h HNv.out HLv.out (by have := HLen.out; omega))
          obtain ⟨gv, hgv⟩ : ∃ gv, gv = getV s1 q1 := ⟨_, rfl⟩
          have HGv : Hid (gv = getV s1 q1) := hgv
          rw [← hgv] at hg0 hg1 HGt
          have hwr : IntKind.i64.wrap (gv + 1) = gv + 1 := by simp [IntKind.wrap, IntKind.bits, IntKind.signed]; omega
          have HHv : Hid (hasV s1 (q1, q2) = false) := hhv
          have k3 := cellG HK.out.1
          have k4 := cellG HK.out.2
          clear hg0 hg1 hgv hhv
          by_cases hd : q2 = gv + 1
          · have hdt : (q2 == gv + 1) = true := by simpa using hd
            have HSe : Hid ((stK xs ys (k + 1)).1 = (raiseR s1 (q1, q2), s2)) := by
              show _ = _
              rw [HSt.out]
              unfold stp
              rw [HHv.out, if_neg (by simp), if_pos (by show q2 = getV s1 q1 + 1; rw [← HGv.out]; exact hd)]
            clear hd
            go_wp2_with fail
            refine wp_region_quiet_grown mixed (by kernel_rfl) ?_
            repeat (first | go_big_quiet_skip | (go_big_quiet_want; go_big_quiet_op; go_big_quiet_on))
            go_big_quiet_want
            go_big_quiet_op
            go_big_quiet_call ((go_at_call 111; exact HGt.out _ _))
            repeat (first | go_big_quiet_skip | (go_big_quiet_want; go_big_quiet_op; go_big_quiet_on))
            refine wpQuiet_nil ?_
            intro _ hw'
            obtain ⟨⟨nq, osq⟩, hw''⟩ := hw'
            subst hw''
            have hb : Below w6.heap.size w6 (grow (w6.drewN nq) osq) := bel_grown (Below.refl _ _) (Nat.le_refl _) nq osq
            replace HB1 := bel_tr HB1 hb
            replace HO1 := Lib.hid (HO1.out.below hb)
            replace HR1 := Lib.hid (HR1.out.keep hb)
            replace HK := Lib.hid (HK.out.keep hb)
            clear hb k3 k4
            have k3 := HK.out.1
            have k4 := HK.out.2
            generalize grow (w6.drewN nq) osq = w7 at *
            go_wp2_with fail
            refine (HRs.out _ HR1.out).mono ?_
            rintro e w8 ⟨a8, c8, rfl, h1, h2, h3, h4, hb⟩
            have HS8 : Hid (SV w8 (.slice a8 (raiseR s1 (q1, q2)).length c8) (raiseR s1 (q1, q2))) := ⟨a8, c8, rfl, h1, h2, h3⟩
            have HA8 : Hid (Apt (.slice a8 (raiseR s1 (q1, q2)).length c8) u3) := fun g hg1 hg2 => by
              rcases a8 with _ | x
              · cases hg1
              · cases hg1
                have h5 := h4 HHv.out x rfl
                have h6 := (HO1.out.lt _ hg2).2
                omega
            have HFa : Hid (Far w.heap.size (.slice a8 (raiseR s1 (q1, q2)).length c8)) := fun g hg => by
              rcases a8 with _ | x
              · cases hg
              · cases hg
                have h5 := h4 HHv.out x rfl
                have h6 := HB1.out.size
                have h7 := HWl.out
                exact ⟨by omega, by omega⟩
            replace HB1 := bel_tr HB1 hb
            replace HO1 := Lib.hid (HO1.out.below hb)
            clear h1 h2 h3 h4 hb k3 k4 HRs
            go_wp2_with fail
            go_roundw
            case rel => exact ⟨k + 1, by omega, by go_num, HB1, by show OD _ _ _ _ _; rw [HSe.out]; exact HO1.out, by show SV _ _ _; rw [HSe.out]; exact HS8.out, fun _ => ⟨HA8.out, HFa.out⟩⟩
            case measure => simp [intOf]; omega
          · have hdf : (q2 == gv + 1) = false := by simpa using hd
            have HSe : Hid ((stK xs ys (k + 1)).1 = (s1, s2 ++ [(q1, q2)])) := by
              show _ = _
              rw [HSt.out]
              unfold stp
              rw [HHv.out, if_neg (by simp), if_neg (by show ¬ q2 = getV s1 q1 + 1; rw [← HGv.out]; exact hd)]
            clear hd
            go_wp2_with fail
            refine wp_region_quiet_grown mixed (by kernel_rfl) ?_
            repeat (first | go_big_quiet_skip | (go_big_quiet_want; go_big_quiet_op; go_big_quiet_on))
            go_big_quiet_want
            go_big_quiet_op
            go_big_quiet_call ((go_at_call 111; exact HGt.out _ _))
            repeat (first | go_big_quiet_skip | (go_big_quiet_want; go_big_quiet_op; go_big_quiet_on))
            refine wpQuiet_nil ?_
            intro _ hw'
            obtain ⟨⟨nq, osq⟩, hw''⟩ := hw'
            subst hw''
            have hb : Below w6.heap.size w6 (grow (w6.drewN nq) osq) := bel_grown (Below.refl _ _) (Nat.le_refl _) nq osq
            replace HB1 := bel_tr HB1 hb
            replace HO1 := Lib.hid (HO1.out.below hb)
            replace HR1 := Lib.hid (HR1.out.keep hb)
            replace HK := Lib.hid (HK.out.keep hb)
            clear hb k3 k4
            have k3 := HK.out.1
            have k4 := HK.out.2
            generalize grow (w6.drewN nq) osq = w7 at *
            have hBa := bel_box w7 (Obj.cells #[.int .i64 q1, .int .i64 q2] 33)
            have HB2 := bel_tr HB1 hBa
            have HR2 := Lib.hid (HR1.out.keep hBa)
            go_wp2_with (at_builtin; refine wpList_appD rfl _ _ _ rfl Tryz.underlying43 infoD _ _ rfl (HO1.out.below hBa) (some ⟨w7.heap.size, 0, none⟩) [(q1, q2)] 1 rfl (lit_one w7 (q1, q2) _) (fun h => by cases h) (by have := HRl.out; have := HLy.out; simp; omega) HB2.out.size ?_)
            intro v8 w8 ho hg hgr
            have HO8 : Hid (OD w8 w2.heap.size E v8 (s2 ++ [(q1, q2)])) := ho
            have HB8 := Lib.hid (HB2.out.grown hg HB2.out.size (fun k hk => (HO1.out.lt k hk).1))
            have HR8 : Hid (RowD w8 av s1) := by
              by_cases he : s1 = []
              · subst he; exact .inl rfl
              · exact HR2.out.gb hg fun b o e h => by
                  subst e
                  exact (HA.out he).1 b rfl h.symm
            have HA8 : Hid (s1 ≠ [] → Apt (.slice av s1.length nv) v8 ∧ Far w.heap.size (.slice av s1.length nv)) := fun he => by
              refine ⟨?_, (HA.out he).2⟩
              refine (HA.out he).1.grew hgr fun g hg => ?_
              rcases av with _ | x
              · cases hg
              · cases hg
                obtain ⟨b', o', e', hcell⟩ := HR2.out.resolve_left he
                cases e'
                exact lt_of_cell (hcell 0 (List.length_pos_iff.2 he)).1
            clear ho hg hgr hBa k3 k4
            go_wp2_with fail
            go_roundw
            case rel => exact ⟨k + 1, by omega, by go_num, HB8, by show OD _ _ _ _ _; rw [HSe.out]; exact HO8.out, by show SV _ _ _; rw [HSe.out]; exact ⟨av, nv, rfl, HR8.out, HNv.out, HLv.out⟩, by show _ ≠ _ → _; rw [HSe.out]; exact HA8.out⟩
            case measure => simp [intOf]; omega
        · have HSe : Hid ((stK xs ys (k + 1)).1 = (s1, s2)) := by
            show _ = _
            rw [HSt.out]
            unfold stp
            rw [hhv, if_pos rfl]
          clear hhv
          go_wp2_with fail
          go_roundw
          case rel => exact ⟨k + 1, by omega, by go_num, HB1, by show OD _ _ _ _ _; rw [HSe.out]; exact HO1.out, by show SV _ _ _; rw [HSe.out]; exact ⟨av, nv, rfl, HR1.out, HNv.out, HLv.out⟩, by show _ ≠ _ → _; rw [HSe.out]; exact HA.out⟩
          case measure => simp [intOf]; omega
      · obtain rfl : k = ys.length := by omega
        have hi1 : ¬ (ys.length : Int) < (ys.length : Int) := by omega
        rw [HEnd.out] at HO HS
        obtain ⟨au, nu, rfl, hru, hnu, hlu, -⟩ := HO.out.row
        obtain ⟨av, nv, rfl, hrv, hnv, hlv⟩ := HS.out
        have HRu := Lib.hid hru
        have HNu := Lib.hid (fun h => (hnu h).1)
        have HLu := Lib.hid hlu
        have HRv := Lib.hid hrv
        have HNv := Lib.hid hnv
        have HLv := Lib.hid hlv
        have HT1 := Lib.hid (HT.out.keep hh.out)
        have HW1 := Lib.hid (HW.out.keep hh.out)
        have HB1 := bel_tr HB hh.out
        clear hru hnu hlu hrv hnv hlv
        have hk0 := HT1.out.1
        have hk1 := HT1.out.2
        have HWb1 := Lib.hid (HWb.out.keep hh.out)
        have HP1 := Lib.hid (put_two (x := .slice av C.1.length nv) (y := .slice au C.2.length nu) HWb1.out)
        have hlt := HWl.out
        have HS2 := Lib.hid (SV.put (g := w.heap.size) (i := 1) (z := .slice au C.2.length nu) (SV.put (g := w.heap.size) (i := 0) (z := .slice av C.1.length nv) HS.out fun he b hb => ((HA.out (by rw [HEnd.out]; exact he)).2 b hb).1) fun he b hb => ((HA.out (by rw [HEnd.out]; exact he)).2 b hb).1)
        have HO2 := Lib.hid (OD.set (OD.set HO.out w.heap.size 0 (.slice av C.1.length nv) (by omega)) w.heap.size 1 (.slice au C.2.length nu) (by omega))
        have HB2 := Lib.hid (below_put (g := w.heap.size) (x := .slice av C.1.length nv) (y := .slice au C.2.length nu) HB1.out (Nat.le_refl _))
        have HW2 : Hid (Wc ((wr.setCell ⟨w.heap.size, 0, none⟩ (.slice av C.1.length nv)).setCell ⟨w.heap.size, 1, none⟩ (.slice au C.2.length nu)) (w.heap.size + 1)) := fun i hi => by
          obtain ⟨⟨v, hv⟩, hf⟩ := HW1.out i hi
          exact ⟨⟨v, (World.cell?_setCell_other _ _ _ _ (by first | (simp; done) | (simp; omega))).trans ((World.cell?_setCell_other _ _ _ _ (by first | (simp; done) | (simp; omega))).trans hv)⟩, by rw [World.frozen?_setCell, World.frozen?_setCell]; exact hf⟩
        obtain ⟨-, j1⟩ := HWb1.out 0 (by omega)
        obtain ⟨-, j3⟩ := HWb1.out 1 (by omega)
        have HFr : Hid (C.1 ≠ [] → Far w.heap.size (.slice av C.1.length nv)) := fun he => (HA.out (by rw [HEnd.out]; exact he)).2
        have HBs := Lib.hid hh.out.size
        have HLc : Hid (C.1.length ≤ 1000000 ∧ C.2.length ≤ 1000000) := by
          have h1 := inv_all HV.out.1 HV.out.2.2 ys.length (Nat.le_refl _)
          have h2 := E.vd_len h1.vd
          have h3 := h1.rl
          rw [HEnd.out] at h2 h3
          exact ⟨by omega, by omega⟩
        clear hlt HT1 HW1 HS HO HB1 HRu HRv hh HA
        go_wp2_with fail
        generalize (wr.setCell ⟨w.heap.size, 0, none⟩ (.slice av C.1.length nv)).setCell ⟨w.heap.size, 1, none⟩ (.slice au C.2.length nu) = w9 at *
        clear hk0 hk1 j1 j3
        have k0 := HP1.out.1
        have k1 := HP1.out.2
        rw [rounds_succ]
        go_wp2_with fail
        obtain ⟨a', n', e1, hr1, -⟩ := HS2.out
        cases e1
        have hr2 := (OD.r HO2.out).1
        refine (HI2.out _ _ _ _ _ hr1 hr2 HLc.out.1 HLc.out.2).mono ?_
        rintro e w10 ⟨rfl, hb⟩
        replace HP1 := Lib.hid (HP1.out.keep hb)
        replace HS2 := Lib.hid (HS2.out.keep hb)
        replace HO2 := Lib.hid (HO2.out.below hb)
        replace HW2 := Lib.hid (HW2.out.keep hb)
        replace HB2 := bel_tr HB2 hb
        clear hb hr1 hr2 k0 k1 HI2
        have k0 := HP1.out.1
        have k1 := HP1.out.2
        obtain ⟨⟨u0, r0⟩, r1⟩ := HW2.out 0 (by omega)
        obtain ⟨⟨u1, r2⟩, r3⟩ := HW2.out 1 (by omega)
        have HP := Lib.hid (put_two (x := .slice av C.1.length nv) (y := .slice au C.2.length nu) HW2.out)
        have HB3 := Lib.hid (below_put (g := w.heap.size + 1) (x := .slice av C.1.length nv) (y := .slice au C.2.length nu) HB2.out (by omega))
        have hlt := HWl.out
        have HS3 := Lib.hid (SV.put (g := w.heap.size + 1) (i := 1) (z := .slice au C.2.length nu) (SV.put (g := w.heap.size + 1) (i := 0) (z := .slice av C.1.length nv) HS2.out fun he b hb => (HFr.out he b hb).2) fun he b hb => (HFr.out he b hb).2)
        have HO3 := Lib.hid (OD.set (OD.set HO2.out (w.heap.size + 1) 0 (.slice av C.1.length nv) (by omega)) (w.heap.size + 1) 1 (.slice au C.2.length nu) (by omega))
        clear hlt
        go_wp2_with fail
        generalize (w10.setCell ⟨w.heap.size + 1, 0, none⟩ (.slice av C.1.length nv)).setCell ⟨w.heap.size + 1, 1, none⟩ (.slice au C.2.length nu) = W at *
        have q0 := HP.out.1
        have q1 := HP.out.2
        (try simp only [Exit.inBlock, Exit.then])
        refine bodyPost_ret (v := cv (.slice av C.1.length nv) (.slice au C.2.length nu)) (by rw [results_cell1 (fn := Tryz.f85) (p := 2) (ty := 51) rfl]; go_simp) rfl ?_
        exact ⟨_, _, rfl, HS3.out, SV.of_od HO3.out, HB3.out⟩
  · have hC := HSf.out hc
    subst hC
    obtain ⟨⟨u0, r0⟩, r1⟩ := HW.out 0 (by omega)
    obtain ⟨⟨u1, r2⟩, r3⟩ := HW.out 1 (by omega)
    have HP := Lib.hid (put_two (x := .slice a xs.length n) (y := .slice b ys.length m) HW.out)
    have HB2 := Lib.hid (below_put (g := w.heap.size + 1) (x := .slice a xs.length n) (y := .slice b ys.length m) HB.out (by omega))
    clear HI2
    go_wp2_with fail
    generalize (w2.setCell ⟨w.heap.size + 1, 0, none⟩ (.slice a xs.length n)).setCell ⟨w.heap.size + 1, 1, none⟩ (.slice b ys.length m) = W at *
    have q0 := HP.out.1
    have q1 := HP.out.2
    (try simp only [Exit.inBlock, Exit.then])
    refine bodyPost_ret (v := cv (.slice a xs.length n) (.slice b ys.length m)) (by rw [results_cell1 (fn := Tryz.f85) (p := 2) (ty := 51) rfl]; go_simp) rfl ?_
    exact ⟨_, _, rfl, ⟨a, n, rfl, hx0.out.keep HB2.out, HNa.out, HLa.out⟩, ⟨b, m, rfl, hy0.out.keep HB2.out, HNb.out, HLb.out⟩, HB2.out⟩
end Go.Proofs.YtfpfihmihlmobaaGreat.F
end

/-
  The reference's Add and Union.
-/
section
namespace Go.Proofs.YtfpfihmihlmobaaGreat.F
set_option linter.unusedVariables false
open Go.RowKit V Go.Sort D
open E (SV SV.nil SV.keep SV.of_od Vd getV get_ge hasV)

/-- A block of two slices, all of it. -/
def Rc (w : World) (g : Nat) : Prop := ∃ a n c b m d, w.heap[g]? = some (.cells #[.slice a n c, .slice b m d] 51 (0, 0))
theorem Rc.lt {w : World} {g : Nat} (h : Rc w g) : g < w.heap.size := by
  obtain ⟨a, n, c, b, m, d, h⟩ := h
  exact (Array.getElem?_eq_some_iff.1 h).1
theorem Rc.keep {w w' : World} {g : Nat} (h : Rc w g) (hb : Below w.heap.size w w') : Rc w' g := by
  have hl := h.lt
  obtain ⟨a, n, c, b, m, d, h⟩ := h
  exact ⟨a, n, c, b, m, d, by rw [hb.block g hl]; exact h⟩
theorem rc_new (w : World) (a b : Option Addr) (n c m d : Nat) : Rc (w.alloc (cbox (.slice a n c) (.slice b m d))) w.heap.size :=
  ⟨a, n, c, b, m, d, by show (w.heap.push _)[w.heap.size]? = _; simp⟩
theorem Rc.wc {w : World} {g : Nat} (h : Rc w g) : Wc w g := by
  obtain ⟨a, n, c, b, m, d, h⟩ := h
  intro i hi
  have hf : w.frozen? ⟨g, i, none⟩ = false := by
    unfold World.frozen?
    rw [show (⟨g, i, none⟩ : Addr).block = g from rfl, h]
    simp
  rcases i with _ | _ | i
  · exact ⟨⟨_, by simp [World.cell?, h]; rfl⟩, hf⟩
  · exact ⟨⟨_, by simp [World.cell?, h]; rfl⟩, hf⟩
  · omega
/-- A row of dots does not lie there. -/
theorem Rc.far {w : World} {g : Nat} (r : Rc w g) {v : Value} {l : List Dt} (k : SV w v l) : l ≠ [] → ∀ b, v.ownBlock = some b → b ≠ g := by
  intro he b hb hbg
  subst hbg
  obtain ⟨a, n, rfl, hr, -, -⟩ := k
  obtain ⟨b', o, rfl, hc⟩ := hr.resolve_left he
  cases hb
  obtain ⟨a1, n1, c1, b1, m1, d1, h⟩ := r
  have h0 := (hc 0 (List.length_pos_iff.2 he)).1
  simp only [World.cell?, h] at h0
  rcases o with _ | _ | o
  all_goals simp at h0
theorem SV.put2 {w : World} {v y z : Value} {l : List Dt} (k : SV w v l) {g : Nat} (r : Rc w g) : SV ((w.setCell ⟨g, 0, none⟩ y).setCell ⟨g, 1, none⟩ z) v l :=
  SV.put (SV.put k (r.far k)) (r.far k)
theorem below_put2 {w0 w : World} {g : Nat} {y z : Value} (h : Hid (Below w0.heap.size w0 w)) (hg : w0.heap.size ≤ g) : Below w0.heap.size w0 ((w.setCell ⟨g, 0, none⟩ y).setCell ⟨g, 1, none⟩ z) := below_put h.out hg
theorem comp_len {xs ys : List Dt} (hv : Vc (xs, ys)) : (compC (xs, ys)).1.length ≤ 64 ∧ (compC (xs, ys)).2.length ≤ ys.length := by
  refine ⟨E.vd_len (comp_vc hv).1, ?_⟩
  have := (inv_all (v := xs) (cl := ys) hv.1 hv.2.2 ys.length (Nat.le_refl _)).rl
  rw [end_rest xs ys] at this
  exact this
theorem add_len {c : Ct} {l : List Dt} (hc : Vc c) (hl : ∀ x ∈ l, validR x = true) : (addC c l).1.length ≤ 64 ∧ (addC c l).2.length ≤ c.2.length + l.length := by
  have h1 := comp_len (add_pre hc hl)
  have h2 := union_len c.2 l
  exact ⟨h1.1, Nat.le_trans h1.2 h2⟩
theorem union_len6 {a b : Ct} (ha : Vc a) (hb : Vc b) : (unionC a b).1.length ≤ 64 ∧ (unionC a b).2.length ≤ a.2.length + b.2.length := by
  have h1 := comp_len (union_pre ha hb)
  have h2 := union_len a.2 b.2
  exact ⟨h1.1, Nat.le_trans h1.2 h2⟩

set_option maxRecDepth 100000 in
set_option maxHeartbeats 1000000 in
theorem add_ref (xs ys l : List Dt) (a b p : Option Addr) (n m j : Nat) (w : World) (hv : Vc (xs, ys)) (hd : ∀ x ∈ l, validR x = true) (hx : RowD w a xs) (hy : RowD w b ys) (hl : RowD w p l) (hna : a = none → n = 0) (hla : xs.length ≤ n) (hlx : xs.length ≤ 100) (hly : ys.length ≤ 400000) (hll : l.length ≤ 400000) :
    Calls Tryz.prog 62 #[cv (.slice a xs.length n) (.slice b ys.length m), .slice p l.length j] w fun e w' => ∃ x y, e = .returned (cv x y) ∧ SV w' x (addC (xs, ys) l).1 ∧ SV w' y (addC (xs, ys) l).2 ∧ Below w.heap.size w w' := by
  have HU := Lib.hid (fun w h1 h2 => union_ref ys l b p m j w h1 h2 (by omega) (by omega))
  have HC := Lib.hid (fun q k w h1 h2 h3 h4 => compact_ref xs (unionR ys l) a q n k w (add_pre (c := (xs, ys)) hv hd) h1 h2 hna hla h3 h4 hlx (by have := union_len ys l; omega))
  have HE : Hid (compC (xs, unionR ys l) = addC (xs, ys) l) := rfl
  rw [HE.out] at HC
  have HT := Lib.hid (two_new w (.slice a xs.length n) (.slice b ys.length m))
  have HB := Lib.hid (bel_box w (cbox (.slice a xs.length n) (.slice b ys.length m)))
  have hb := bel_box (w.alloc (cbox (.slice a xs.length n) (.slice b ys.length m))) (cbox (.slice none 0 0) (.slice none 0 0))
  have HR := Lib.hid (rc_new (w.alloc (cbox (.slice a xs.length n) (.slice b ys.length m))) none none 0 0 0 0)
  have hsz : (w.alloc (cbox (.slice a xs.length n) (.slice b ys.length m))).heap.size = w.heap.size + 1 := by simp
  rw [hsz] at HR
  replace HT := Lib.hid (HT.out.keep hb)
  replace HB := bel_tr HB hb
  have HX := Lib.hid (hx.keep HB.out)
  have HYr := Lib.hid (hy.keep HB.out)
  have HL := Lib.hid (hl.keep HB.out)
  clear hx hy hl hna hla hlx hly hll hsz hb HE hv hd
  generalize addC (xs, ys) l = C at *
  generalize unionR ys l = s at *
  go_enter Tryz.func62, Tryz.ntmps62
  go_wp2_with fail
  generalize (w.alloc (cbox (.slice a xs.length n) (.slice b ys.length m))).alloc (cbox (.slice none 0 0) (.slice none 0 0)) = w1 at *
  have HSb := Lib.hid (show Sb w.heap.size (.slice a xs.length n) (.slice b ys.length m) w1 from HT.out)
  clear HT
  refine Sch.wp_region_tree (Sb w.heap.size (.slice a xs.length n) (.slice b ys.length m)) (.take 0 (.take 1 (.take 2 (.take 3 (.take 4 (.one 5 (.one 6 (.one 7 (.one 8 .done))))))))) (by kernel_rfl) (by kernel_rfl) (HSb.out.keep ((Below.refl _ _).drew)) ?_
  have hb : Below w1.heap.size w1 w1.drew := (Below.refl _ _).drew
  replace HSb := Lib.hid (HSb.out.keep hb)
  replace HR := Lib.hid (HR.out.keep hb)
  replace HX := Lib.hid (HX.out.keep hb)
  replace HYr := Lib.hid (HYr.out.keep hb)
  replace HL := Lib.hid (HL.out.keep hb)
  replace HB := bel_tr HB hb
  clear hb
  generalize w1.drew = w2 at *
  refine Sch.tree_q rfl rfl (fun K hK => ?_)
  go_big_quiet_op
  first | refine hK _ ?_ | refine ⟨_, fun _ _ => rfl, hK _ ?_⟩
  clear hK K
  refine tree_load _ _ _ _ _ rfl rfl rfl rfl (by first | exact Sb.l | exact Sb.l0 | exact Sb.l1) rfl ?_
  simp only [Act.put, List.setIfInBounds_toArray, List.set_cons_zero, List.set_cons_succ]
  refine Sch.tree_q rfl rfl (fun K hK => ?_)
  go_big_quiet_op
  first | refine hK _ ?_ | refine ⟨_, fun _ _ => rfl, hK _ ?_⟩
  clear hK K
  refine tree_load _ _ _ _ _ rfl rfl rfl rfl (by first | exact Sb.l | exact Sb.l0 | exact Sb.l1) rfl ?_
  simp only [Act.put, List.setIfInBounds_toArray, List.set_cons_zero, List.set_cons_succ]
  refine Sch.tree_q rfl rfl (fun K hK => ?_)
  go_big_quiet_op
  first | refine hK _ ?_ | refine ⟨_, fun _ _ => rfl, hK _ ?_⟩
  clear hK K
  refine Sch.tree_e rfl rfl (fun K hK => ?_)
  go_wp2_with fail
  refine (HU.out _ HYr.out HL.out).mono ?_
  rintro e w3 ⟨v2, rfl, ho, hb⟩
  obtain ⟨a2, c2, rfl, hr, hn2, hl2, -⟩ := ho.row
  replace HSb := Lib.hid (HSb.out.keep hb)
  replace HR := Lib.hid (HR.out.keep hb)
  replace HX := Lib.hid (HX.out.keep hb)
  replace HB := bel_tr HB hb
  have HC2 := Lib.hid (HC.out a2 c2 w3 HX.out hr (fun h => (hn2 h).1) hl2)
  clear ho hb hr hn2 hl2 HU HC
  refine hK _ _ HSb.out ?_
  clear hK K
  refine Sch.tree_e rfl rfl (fun K hK => ?_)
  go_wp2_with fail
  refine hK _ _ HSb.out ?_
  clear hK K
  refine Sch.tree_e rfl rfl (fun K hK => ?_)
  go_wp2_with fail
  refine (HC2.out).mono ?_
  rintro e w4 ⟨x, y, rfl, hs1, hs2, hb⟩
  have HSx := Lib.hid hs1
  have HSy := Lib.hid hs2
  replace HSb := Lib.hid (HSb.out.keep hb)
  replace HR := Lib.hid (HR.out.keep hb)
  replace HB := bel_tr HB hb
  clear hs1 hs2 hb HC2
  obtain ⟨⟨u0, r0⟩, r1⟩ := HR.out.wc 0 (by omega)
  obtain ⟨⟨u1, r2⟩, r3⟩ := HR.out.wc 1 (by omega)
  obtain ⟨a6, n6, rfl, -⟩ := SV.sh HSx.out
  obtain ⟨b6, m6, rfl, -⟩ := SV.sh HSy.out
  have HP := Lib.hid (put_two (x := .slice a6 C.1.length n6) (y := .slice b6 C.2.length m6) HR.out.wc)
  have HX2 := Lib.hid (SV.put2 (y := .slice a6 C.1.length n6) (z := .slice b6 C.2.length m6) HSx.out HR.out)
  have HY2 := Lib.hid (SV.put2 (y := .slice a6 C.1.length n6) (z := .slice b6 C.2.length m6) HSy.out HR.out)
  have HB4 := Lib.hid (below_put2 (g := w.heap.size + 1) (y := .slice a6 C.1.length n6) (z := .slice b6 C.2.length m6) HB (by omega))
  have HSb2 : Hid (Sb w.heap.size (.slice a xs.length n) (.slice b ys.length m) ((w4.setCell ⟨w.heap.size + 1, 0, none⟩ (.slice a6 C.1.length n6)).setCell ⟨w.heap.size + 1, 1, none⟩ (.slice b6 C.2.length m6))) := Bc.set (Bc.set HSb.out (by omega)) (by omega)
  refine hK _ _ HSb.out ?_
  clear hK K
  refine Sch.tree_e rfl rfl (fun K hK => ?_)
  go_wp2_with fail
  refine hK _ _ HSb2.out ?_
  clear hK K
  generalize (w4.setCell ⟨w.heap.size + 1, 0, none⟩ (.slice a6 C.1.length n6)).setCell ⟨w.heap.size + 1, 1, none⟩ (.slice b6 C.2.length m6) = W at *
  refine Sch.tree_n ?_
  have q0 := HP.out.1
  have q1 := HP.out.2
  go_wp2_with fail
  (try simp only [Exit.inBlock, Exit.then])
  refine bodyPost_ret (v := cv (.slice a6 C.1.length n6) (.slice b6 C.2.length m6)) (by rw [results_cell1 (fn := Tryz.f62) (p := 4) (ty := 51) rfl]; go_simp) rfl ?_
  exact ⟨_, _, rfl, HX2.out, HY2.out, HB4.out⟩

end Go.Proofs.YtfpfihmihlmobaaGreat.F
end

/-
  The reference's Within, Missing and Size.
-/
section
namespace Go.Proofs.YtfpfihmihlmobaaGreat.F
set_option linter.unusedVariables false
open Go.RowKit V Go.Sort D
open E (SV SV.nil SV.keep SV.of_od Vd getV get_ge hasV withinV)

/-- A box, and a dot in memory, as a class of worlds. -/
def Sd (g : Nat) (x y : Value) (b o : Nat) (d : Dt) (w : World) : Prop := Bc w g x y ∧ w.cell? ⟨b, o, none⟩ = some (.int .i64 d.1) ∧ w.cell? ⟨b, o + 1, none⟩ = some (.int .i64 d.2)
theorem Sd.keep {g : Nat} {x y : Value} {b o : Nat} {d : Dt} {w w' : World} (h : Sd g x y b o d w) (hb : Below w.heap.size w w') : Sd g x y b o d w' :=
  ⟨h.1.keep hb, (hb.cell (p := ⟨b, o, none⟩) (lt_of_cell h.2.1)).trans h.2.1, (hb.cell (p := ⟨b, o + 1, none⟩) (lt_of_cell h.2.2)).trans h.2.2⟩
theorem Sd.l {g : Nat} {x y : Value} {b o : Nat} {d : Dt} : ∀ w, Sd g x y b o d w → (Instr.loadAt 51 (.pointer (some ⟨g, 0, none⟩))).run Tryz.prog w = .ok (cv x y) w := fun w k => load_ctx k.1
theorem Sd.d {g : Nat} {x y : Value} {b o : Nat} {d : Dt} : ∀ w, Sd g x y b o d w → (Instr.loadAt 33 (.pointer (some ⟨b, o, none⟩))).run Tryz.prog w = .ok (.agg #[.int .i64 d.1, .int .i64 d.2]) w := fun w k => load_dot k.2.1 k.2.2
/-- Two boxes, and a dot. -/
def Se (g h : Nat) (x y u v : Value) (b o : Nat) (d : Dt) (w : World) : Prop := Sb2 g h x y u v w ∧ w.cell? ⟨b, o, none⟩ = some (.int .i64 d.1) ∧ w.cell? ⟨b, o + 1, none⟩ = some (.int .i64 d.2)
theorem Se.keep {g h : Nat} {x y u v : Value} {b o : Nat} {d : Dt} {w w' : World} (k : Se g h x y u v b o d w) (hb : Below w.heap.size w w') : Se g h x y u v b o d w' :=
  ⟨k.1.keep hb, (hb.cell (p := ⟨b, o, none⟩) (lt_of_cell k.2.1)).trans k.2.1, (hb.cell (p := ⟨b, o + 1, none⟩) (lt_of_cell k.2.2)).trans k.2.2⟩
theorem Se.l {g h : Nat} {x y u v : Value} {b o : Nat} {d : Dt} : ∀ w, Se g h x y u v b o d w → (Instr.loadAt 51 (.pointer (some ⟨h, 0, none⟩))).run Tryz.prog w = .ok (cv u v) w := fun w k => load_ctx k.1.2
theorem Se.l1 {g h : Nat} {x y u v : Value} {b o : Nat} {d : Dt} : ∀ w, Se g h x y u v b o d w → (Instr.loadAt 43 (.pointer (some ⟨g, 1, none⟩))).run Tryz.prog w = .ok y w := fun w k => load_d k.1.1.2
theorem Se.d {g h : Nat} {x y u v : Value} {b o : Nat} {d : Dt} : ∀ w, Se g h x y u v b o d w → (Instr.loadAt 33 (.pointer (some ⟨b, o, none⟩))).run Tryz.prog w = .ok (.agg #[.int .i64 d.1, .int .i64 d.2]) w := fun w k => load_dot k.2.1 k.2.2

theorem fold_ins {c : Ct} {l : List Dt} {k : Nat} (h : k < l.length) : missR c (l.take (k + 1)) = if hasC c l[k] = true then missR c (l.take k) else ins (missR c (l.take k)) l[k] := by
  unfold missR
  rw [filter_take h]
  rcases hasC c l[k] with _ | _
  · simp [List.foldl_append]
  · simp
theorem miss_len (c : Ct) (l : List Dt) : (missR c l).length ≤ l.length := by
  unfold missR
  have h1 := fold_len (l.filter fun d => !hasC c d) []
  have h2 := List.length_filter_le (fun d => !hasC c d) l
  simp at h1
  omega

end Go.Proofs.YtfpfihmihlmobaaGreat.F
end

/-
  The reference's Size.
-/
section
namespace Go.Proofs.YtfpfihmihlmobaaGreat.F
set_option linter.unusedVariables false
open Go.RowKit V Go.Sort D
open E (SV SV.of_od Cm Vd getV get_ge hasV ix_vec)

end Go.Proofs.YtfpfihmihlmobaaGreat.F
end
end

/-
  What the laws call, the examples one by one, and the classes of worlds.
-/
section
/-
  The law's helpers.
-/
section
namespace Go.Proofs.YtfpfihmihlmobaaGreat.F
set_option linter.unusedVariables false
open Go.RowKit V Go.Sort D
open E (SV SV.nil SV.keep SV.of_od)

/-- Two boxes, one behind the other. -/
theorem two_boxes (w : World) (x y u v : Value) : Bc ((w.alloc (cbox x y)).alloc (cbox u v)) w.heap.size x y ∧ Bc ((w.alloc (cbox x y)).alloc (cbox u v)) (w.heap.size + 1) u v ∧ Below w.heap.size w ((w.alloc (cbox x y)).alloc (cbox u v)) := by
  have hsz : (w.alloc (cbox x y)).heap.size = w.heap.size + 1 := by simp
  have hb := bel_box (w.alloc (cbox x y)) (cbox u v)
  have h2 := two_new (w.alloc (cbox x y)) u v
  rw [hsz] at h2
  exact ⟨(two_new w x y).keep hb, h2, (bel_tr (Lib.hid (bel_box w (cbox x y))) hb).out⟩

/-- Three boxes. -/
theorem three_boxes (w : World) (x y u v s t : Value) : Bc (((w.alloc (cbox x y)).alloc (cbox u v)).alloc (cbox s t)) w.heap.size x y ∧ Bc (((w.alloc (cbox x y)).alloc (cbox u v)).alloc (cbox s t)) (w.heap.size + 1) u v ∧ Bc (((w.alloc (cbox x y)).alloc (cbox u v)).alloc (cbox s t)) (w.heap.size + 1 + 1) s t ∧ Below w.heap.size w (((w.alloc (cbox x y)).alloc (cbox u v)).alloc (cbox s t)) := by
  obtain ⟨h0, h1, hb⟩ := two_boxes w x y u v
  have hsz : ((w.alloc (cbox x y)).alloc (cbox u v)).heap.size = w.heap.size + 1 + 1 := by simp
  have hb2 := bel_box ((w.alloc (cbox x y)).alloc (cbox u v)) (cbox s t)
  have h2 := two_new ((w.alloc (cbox x y)).alloc (cbox u v)) s t
  rw [hsz] at h2
  exact ⟨h0.keep hb2, h1.keep hb2, h2, (bel_tr (Lib.hid hb) hb2).out⟩

end Go.Proofs.YtfpfihmihlmobaaGreat.F
end

/-
  The law's copies, lists and contexts.
-/
section
namespace Go.Proofs.YtfpfihmihlmobaaGreat.F
set_option linter.unusedVariables false
open Go.RowKit V Go.Sort D
open E (SV SV.nil SV.keep SV.of_od)

/-- Two numbers in memory, as a class of worlds. -/
def Sq (b o : Nat) (d : Dt) (w : World) : Prop := w.cell? ⟨b, o, none⟩ = some (.int .i64 d.1) ∧ w.cell? ⟨b, o + 1, none⟩ = some (.int .i64 d.2)
theorem Sq.keep {b o : Nat} {d : Dt} {w w' : World} (h : Sq b o d w) (hb : Below w.heap.size w w') : Sq b o d w' :=
  ⟨(hb.cell (p := ⟨b, o, none⟩) (lt_of_cell h.1)).trans h.1, (hb.cell (p := ⟨b, o + 1, none⟩) (lt_of_cell h.2)).trans h.2⟩
theorem Sq.l0 {b o : Nat} {d : Dt} : ∀ w, Sq b o d w → (Instr.loadAt 3 (.pointer (some ⟨b, o, none⟩))).run Tryz.prog w = .ok (.int .i64 d.1) w := fun w h => load_int h.1
theorem Sq.l1 {b o : Nat} {d : Dt} : ∀ w, Sq b o d w → (Instr.loadAt 3 (.pointer (some ⟨b, o + 1, none⟩))).run Tryz.prog w = .ok (.int .i64 d.2) w := fun w h => load_int h.2
theorem ix_num (b o n c k : Nat) (z : Int) (hz : z = (k : Int)) (hk : k < n) : ∀ w, (Instr.indexAt 140 (.slice (some ⟨b, o, none⟩) n c) (.int .i64 z)).run Tryz.prog w = .ok (.pointer (some ⟨b, o + k, none⟩)) w := by
  intro w
  subst hz
  have hk2 : (k : Int) < (n : Int) := by omega
  go_simp

def Tt (w : World) : Prop := True
end Go.Proofs.YtfpfihmihlmobaaGreat.F
end

/-
  The examples, plainly.
-/
section
namespace Go.Proofs.YtfpfihmihlmobaaGreat.F
set_option linter.unusedVariables false
open Go.RowKit V Go.Sort D
open E (SV SV.nil SV.keep SV.of_od)

theorem ex1 : compB ([(1, 2)], [(2, 1), (1, 3), (1, 5)]) = (([(1, 3), (2, 1)], [(1, 5)]), 0) := by decide
theorem ex2 : compB ([], [(1, 2), (1, 4)]) = (([], [(1, 2), (1, 4)]), 0) := by decide
theorem ex3 : compB ([(1, 5)], [(1, 3)]) = (([(1, 5)], []), 0) := by decide
theorem ex4 : isCompR ([(1, 2)], [(1, 4)]) = true := by decide
theorem ex5 : isCompR ([(1, 2)], [(1, 3)]) = false := by decide
theorem ex6 : validC ([(1, 2)], [(1, 4), (1, 3)]) = false := by decide
theorem ex7 : hasC ([(1, 2)], [(1, 4)]) (1, 1) = true := by decide
theorem ex8 : hasC ([(1, 2)], [(1, 4)]) (1, 3) = false := by decide
theorem ex9 : hasC ([(1, 2)], [(1, 4)]) (1, 4) = true := by decide
theorem ex10 : sizeB ([(1, 2)], [(1, 2), (1, 4)]) = 3 := by decide
theorem ex11 : missR ([(1, 2)], [(1, 4)]) [(1, 5), (1, 3), (1, 4)] = [(1, 3), (1, 5)] := by decide
theorem ex12 : madeB [(1, 3), (1, 1), (2, 2), (1, 2)] = (([(1, 3)], [(2, 2)]), 0) := by decide
theorem ex13 : addB ([(1, 2)], [(1, 4)]) [(1, 3)] = (([(1, 4)], []), 0) := by decide
theorem ex14 : unionB ([(1, 2)], [(1, 4)]) ([(1, 1)], [(2, 2), (1, 3)]) = (([(1, 4)], [(2, 2)]), 0) := by decide
theorem ex15 : madeB [(0, 1)] = (([], []), 2) := by decide
theorem ex16 : withB ([(1, 2)], []) ([], [(1, 1), (1, 2)]) = (true, 0) := by decide
theorem ex17 : withB ([(1, 2)], []) ([], [(1, 2)]) = (false, 0) := by decide
theorem ex18 : withB ([], []) ([], []) = (true, 0) := by decide
end Go.Proofs.YtfpfihmihlmobaaGreat.F
end

/-
  Classes of worlds with several boxes.
-/
section
namespace Go.Proofs.YtfpfihmihlmobaaGreat.F
set_option linter.unusedVariables false
open Go.RowKit V Go.Sort D
open E (SV SV.nil SV.keep SV.of_od)

/-- Four boxes with contexts. -/
def S4 (g1 g2 g3 g4 : Nat) (x1 y1 x2 y2 x3 y3 x4 y4 : Value) (w : World) : Prop := Bc w g1 x1 y1 ∧ Bc w g2 x2 y2 ∧ Bc w g3 x3 y3 ∧ Bc w g4 x4 y4
section
variable {g1 g2 g3 g4 : Nat} {x1 y1 x2 y2 x3 y3 x4 y4 : Value} {gd : Nat} {d : Dt}
theorem S4.keep {w w' : World} (h : S4 g1 g2 g3 g4 x1 y1 x2 y2 x3 y3 x4 y4 w) (hb : Below w.heap.size w w') : S4 g1 g2 g3 g4 x1 y1 x2 y2 x3 y3 x4 y4 w' := ⟨h.1.keep hb, h.2.1.keep hb, h.2.2.1.keep hb, h.2.2.2.keep hb⟩
theorem S4.a : ∀ w, S4 g1 g2 g3 g4 x1 y1 x2 y2 x3 y3 x4 y4 w → (Instr.loadAt 51 (.pointer (some ⟨g1, 0, none⟩))).run Tryz.prog w = .ok (cv x1 y1) w := fun w h => load_ctx h.1
theorem S4.b : ∀ w, S4 g1 g2 g3 g4 x1 y1 x2 y2 x3 y3 x4 y4 w → (Instr.loadAt 51 (.pointer (some ⟨g2, 0, none⟩))).run Tryz.prog w = .ok (cv x2 y2) w := fun w h => load_ctx h.2.1
theorem S4.c : ∀ w, S4 g1 g2 g3 g4 x1 y1 x2 y2 x3 y3 x4 y4 w → (Instr.loadAt 51 (.pointer (some ⟨g3, 0, none⟩))).run Tryz.prog w = .ok (cv x3 y3) w := fun w h => load_ctx h.2.2.1
theorem S4.dd : ∀ w, S4 g1 g2 g3 g4 x1 y1 x2 y2 x3 y3 x4 y4 w → (Instr.loadAt 51 (.pointer (some ⟨g4, 0, none⟩))).run Tryz.prog w = .ok (cv x4 y4) w := fun w h => load_ctx h.2.2.2
/-- Four boxes with contexts, and one with a dot. -/
def S5 (g1 g2 g3 g4 gd : Nat) (x1 y1 x2 y2 x3 y3 x4 y4 : Value) (d : Dt) (w : World) : Prop := S4 g1 g2 g3 g4 x1 y1 x2 y2 x3 y3 x4 y4 w ∧ w.cell? ⟨gd, 0, none⟩ = some (.int .i64 d.1) ∧ w.cell? ⟨gd, 1, none⟩ = some (.int .i64 d.2)
theorem S5.keep {w w' : World} (h : S5 g1 g2 g3 g4 gd x1 y1 x2 y2 x3 y3 x4 y4 d w) (hb : Below w.heap.size w w') : S5 g1 g2 g3 g4 gd x1 y1 x2 y2 x3 y3 x4 y4 d w' :=
  ⟨h.1.keep hb, (hb.cell (p := ⟨gd, 0, none⟩) (lt_of_cell h.2.1)).trans h.2.1, (hb.cell (p := ⟨gd, 1, none⟩) (lt_of_cell h.2.2)).trans h.2.2⟩
theorem S5.a : ∀ w, S5 g1 g2 g3 g4 gd x1 y1 x2 y2 x3 y3 x4 y4 d w → (Instr.loadAt 51 (.pointer (some ⟨g1, 0, none⟩))).run Tryz.prog w = .ok (cv x1 y1) w := fun w h => load_ctx h.1.1
theorem S5.b : ∀ w, S5 g1 g2 g3 g4 gd x1 y1 x2 y2 x3 y3 x4 y4 d w → (Instr.loadAt 51 (.pointer (some ⟨g2, 0, none⟩))).run Tryz.prog w = .ok (cv x2 y2) w := fun w h => load_ctx h.1.2.1
theorem S5.c : ∀ w, S5 g1 g2 g3 g4 gd x1 y1 x2 y2 x3 y3 x4 y4 d w → (Instr.loadAt 51 (.pointer (some ⟨g3, 0, none⟩))).run Tryz.prog w = .ok (cv x3 y3) w := fun w h => load_ctx h.1.2.2.1
theorem S5.e : ∀ w, S5 g1 g2 g3 g4 gd x1 y1 x2 y2 x3 y3 x4 y4 d w → (Instr.loadAt 51 (.pointer (some ⟨g4, 0, none⟩))).run Tryz.prog w = .ok (cv x4 y4) w := fun w h => load_ctx h.1.2.2.2
theorem S5.dt : ∀ w, S5 g1 g2 g3 g4 gd x1 y1 x2 y2 x3 y3 x4 y4 d w → (Instr.loadAt 33 (.pointer (some ⟨gd, 0, none⟩))).run Tryz.prog w = .ok (.agg #[.int .i64 d.1, .int .i64 d.2]) w := fun w h => load_dot h.2.1 h.2.2
end
theorem SV.r {w : World} {a : Option Addr} {k n : Nat} {l : List Dt} (h : SV w (.slice a k n) l) : RowD w a l ∧ (a = none → n = 0) ∧ l.length ≤ n := by
  obtain ⟨a', n', e, h1, h2, h3⟩ := h
  cases e
  exact ⟨h1, h2, h3⟩
end Go.Proofs.YtfpfihmihlmobaaGreat.F
end
end
