/-
  The law StorePuts.
-/
import Derived.Test.YtfpfihmihlmobaaGreatMQLLooks
import Derived.Test.YtfpfihmihlmobaaGreatQPX
namespace Go.Proofs.YtfpfihmihlmobaaGreat.Qs
set_option linter.unusedVariables false
open Go.RowKit V Go.Sort D Nd
attribute [local irreducible] Sch.heldN Sch.stepV Sch.stepE

/-- Two boxes: a dot, and behind it a node. -/
def Pd (g : Nat) (d : Dt) (n : Nt) (w : World) : Prop := (w.cell? ⟨g, 0, none⟩ = some (.int .i64 d.1) ∧ w.cell? ⟨g, 1, none⟩ = some (.int .i64 d.2)) ∧ Nb w (g + 1) n
theorem Pd.keep {g : Nat} {d : Dt} {n : Nt} {w w' : World} (h : Pd g d n w) (hb : Below w.heap.size w w') : Pd g d n w' :=
  ⟨⟨(hb.cell (p := ⟨g, 0, none⟩) (lt_of_cell h.1.1)).trans h.1.1, (hb.cell (p := ⟨g, 1, none⟩) (lt_of_cell h.1.2)).trans h.1.2⟩, h.2.keep hb⟩
theorem Pd.new (d : Dt) (n : Nt) (w : World) : Pd w.heap.size d n ((w.alloc (.cells #[.int .i64 d.1, .int .i64 d.2] 33)).alloc (.cells (nc n) 35)) := by
  have hn0 := Nb.new (w.alloc (.cells #[.int .i64 d.1, .int .i64 d.2] 33)) n
  rw [show (w.alloc (.cells #[.int .i64 d.1, .int .i64 d.2] 33)).heap.size = w.heap.size + 1 by simp] at hn0
  refine ⟨⟨?_, ?_⟩, hn0⟩ <;> go_simp
/-- A box with a dot, and a node of a row. -/
def Pl (g : Nat) (d : Dt) (b o : Nat) (q : Nt) (w : World) : Prop := (w.cell? ⟨g, 0, none⟩ = some (.int .i64 d.1) ∧ w.cell? ⟨g, 1, none⟩ = some (.int .i64 d.2)) ∧ Na w b o q
section
variable {g b o : Nat} {d : Dt} {q : Nt}
theorem Pl.keep {w w' : World} (h : Pl g d b o q w) (hb : Below w.heap.size w w') : Pl g d b o q w' :=
  ⟨⟨(hb.cell (p := ⟨g, 0, none⟩) (lt_of_cell h.1.1)).trans h.1.1, (hb.cell (p := ⟨g, 1, none⟩) (lt_of_cell h.1.2)).trans h.1.2⟩, h.2.keep hb⟩
theorem Pl.ld : ∀ w, Pl g d b o q w → (Instr.loadAt 33 (.pointer (some ⟨g, 0, none⟩))).run Tryz.prog w = .ok (dv d) w := fun w k => by
  obtain ⟨⟨x0, x1⟩, -⟩ := k
  go_simp
theorem Pl.lq : ∀ w, Pl g d b o q w → (Instr.loadAt 35 (.pointer (some ⟨b, o, none⟩))).run Tryz.prog w = .ok (nv q) w := fun w k => k.2.load
end

set_option maxRecDepth 100000 in
set_option maxHeartbeats 8000000 in
theorem puts_law (l : List Nt) (d : Dt) (n : Nt) (a : Option Addr) (c : Nat) (w : World) (hf : ∀ x ∈ l, fitN x) (hi : ∀ x ∈ l, i32 x.2.2.2) (hfd : fitD d) (hfn : fitN n) (hin : i32 n.2.2.2) (hx : RowN w a l) (hna : a = none → c = 0) (hlc : l.length ≤ c) (hl : l.length ≤ 9223372036854775807) :
    Calls Tryz.prog 4 #[.slice a l.length c, dv d, nv n] w fun e w' => e = .returned (.bool true) ∧ Below w.heap.size w w' := by
  have HF := Lib.hid hf
  have HfD := Lib.hid hfd
  have HfN := Lib.hid hfn
  have HiN := Lib.hid hin
  have HK := Lib.hid (Pd.new d n w)
  have HB := Lib.hid (bel_two2 w (.cells #[.int .i64 d.1, .int .i64 d.2] 33) (.cells (nc n) 35))
  have HX := Lib.hid (hx.keep HB.out)
  have HV := Lib.hid (fun w h hlx => validS_ref l a c w hi h hlx)
  have HG := Lib.hid (fun w h hlx => find_ref l d a c w h hlx)
  have HR := Lib.hid (fun w => D.valid_ref d w)
  clear hx hf hi hfd hfn hin
  obtain ⟨d1, d2⟩ := d
  rcases Nat.lt_or_ge 60 l.length with h60 | h60
  · have hg : decide ((60 : Int) < (l.length : Int)) = true := by simp; omega
    go_enter Tryz.func4, Tryz.ntmps4
    go_wp2_with fail
    generalize ((w.alloc (.cells #[.int .i64 d1, .int .i64 d2] 33)).alloc (.cells (nc n) 35)) = w1 at *
    refine (known_any _).mono ?_
    rintro e w11 ⟨rfl, hb⟩
    replace HB := bel_tr HB hb
    clear hb
    go_wp2_with fail
    go_ret
    exact ⟨rfl, HB.out⟩
  have hg : decide ((60 : Int) < (l.length : Int)) = false := by simp; omega
  obtain ⟨ix, hix⟩ : ∃ ix, ix = idxS l (d1, d2) := ⟨_, rfl⟩
  rw [← hix] at HG
  have HIx := Lib.hid hix
  clear hix
  rcases hv : validS l with _ | _
  · have HFi := Lib.hid (findS_no1 (d := (d1, d2)) hv)
    have HP := Lib.hid (putP_no1 (n := n) hv)
    rw [hv] at HV
    clear hv
    go_enter Tryz.func4, Tryz.ntmps4
    go_wp2_with fail
    generalize ((w.alloc (.cells #[.int .i64 d1, .int .i64 d2] 33)).alloc (.cells (nc n) 35)) = w1 at *
    refine (HV.out _ HX.out (by omega)).mono ?_
    rintro e w12 ⟨rfl, hb⟩
    replace HX := Lib.hid (HX.out.keep hb)
    replace HK := Lib.hid (HK.out.keep hb)
    replace HB := bel_tr HB hb
    clear hb
    obtain ⟨⟨x0, x1⟩, y0, y1, y2, y3, y4, y5⟩ := HK.out
    go_wp2_with fail
    clear x0 x1 y0 y1 y2 y3 y4 y5
    refine (HG.out _ HX.out (by omega)).mono ?_
    rintro e w13 ⟨rfl, hb⟩
    replace HX := Lib.hid (HX.out.keep hb)
    replace HK := Lib.hid (HK.out.keep hb)
    replace HB := bel_tr HB hb
    clear hb
    obtain ⟨⟨x0, x1⟩, y0, y1, y2, y3, y4, y5⟩ := HK.out
    go_wp2_with fail
    clear x0 x1 y0 y1 y2 y3 y4 y5
    refine (finds_true l (d1, d2) zeroN 2 a c _ HFi.out HF.out HfD.out HX.out (by omega)).mono ?_
    rintro e w14 ⟨rfl, hb⟩
    replace HX := Lib.hid (HX.out.keep hb)
    replace HK := Lib.hid (HK.out.keep hb)
    replace HB := bel_tr HB hb
    clear hb
    obtain ⟨⟨x0, x1⟩, y0, y1, y2, y3, y4, y5⟩ := HK.out
    go_wp2_with fail
    clear x0 x1 y0 y1 y2 y3 y4 y5
    refine (puts_true l n a c [] 2 none 0 _ (HP.out) HF.out HfN.out HX.out hna (by omega) (.inl rfl) (by simp)).mono ?_
    rintro e w15 ⟨rfl, hb⟩
    replace HX := Lib.hid (HX.out.keep hb)
    replace HK := Lib.hid (HK.out.keep hb)
    replace HB := bel_tr HB hb
    clear hb
    obtain ⟨⟨x0, x1⟩, y0, y1, y2, y3, y4, y5⟩ := HK.out
    go_wp2_with fail
    clear x0 x1 y0 y1 y2 y3 y4 y5
    refine (known_any _).mono ?_
    rintro e w16 ⟨rfl, hb⟩
    replace HB := bel_tr HB hb
    clear hb
    go_wp2_with fail
    go_ret
    exact ⟨rfl, HB.out⟩
  have HH := Lib.hid hv
  rw [hv] at HV
  clear hv
  rcases hvd : validR (d1, d2) with _ | _
  · have HFi := Lib.hid (findS_no2 (l := l) hvd)
    rw [hvd] at HR
    clear hvd
    go_enter Tryz.func4, Tryz.ntmps4
    go_wp2_with fail
    generalize ((w.alloc (.cells #[.int .i64 d1, .int .i64 d2] 33)).alloc (.cells (nc n) 35)) = w1 at *
    refine (HV.out _ HX.out (by omega)).mono ?_
    rintro e w17 ⟨rfl, hb⟩
    replace HX := Lib.hid (HX.out.keep hb)
    replace HK := Lib.hid (HK.out.keep hb)
    replace HB := bel_tr HB hb
    clear hb
    obtain ⟨⟨x0, x1⟩, y0, y1, y2, y3, y4, y5⟩ := HK.out
    go_wp2_with fail
    clear x0 x1 y0 y1 y2 y3 y4 y5
    refine (HG.out _ HX.out (by omega)).mono ?_
    rintro e w18 ⟨rfl, hb⟩
    replace HX := Lib.hid (HX.out.keep hb)
    replace HK := Lib.hid (HK.out.keep hb)
    replace HB := bel_tr HB hb
    clear hb
    obtain ⟨⟨x0, x1⟩, y0, y1, y2, y3, y4, y5⟩ := HK.out
    go_wp2_with fail
    clear x0 x1 y0 y1 y2 y3 y4 y5
    refine (HR.out _).mono ?_
    rintro e w19 ⟨rfl, hb⟩
    replace HX := Lib.hid (HX.out.keep hb)
    replace HK := Lib.hid (HK.out.keep hb)
    replace HB := bel_tr HB hb
    clear hb
    obtain ⟨⟨x0, x1⟩, y0, y1, y2, y3, y4, y5⟩ := HK.out
    go_wp2_with fail
    clear x0 x1 y0 y1 y2 y3 y4 y5
    refine (finds_true l (d1, d2) zeroN 2 a c _ HFi.out HF.out HfD.out HX.out (by omega)).mono ?_
    rintro e w20 ⟨rfl, hb⟩
    replace HX := Lib.hid (HX.out.keep hb)
    replace HK := Lib.hid (HK.out.keep hb)
    replace HB := bel_tr HB hb
    clear hb
    rcases hvn : validN n with _ | _
    · have HP := Lib.hid (putP_no2 (l := l) hvn)
      have HC0 := Lib.hid (fun w => validN_ref n HiN.out w)
      rw [hvn] at HC0
      clear hvn
      obtain ⟨⟨x0, x1⟩, y0, y1, y2, y3, y4, y5⟩ := HK.out
      go_wp2_with fail
      clear x0 x1 y0 y1 y2 y3 y4 y5
      refine (HC0.out _).mono ?_
      rintro e w21 ⟨rfl, hb⟩
      replace HX := Lib.hid (HX.out.keep hb)
      replace HK := Lib.hid (HK.out.keep hb)
      replace HB := bel_tr HB hb
      clear hb
      obtain ⟨⟨x0, x1⟩, y0, y1, y2, y3, y4, y5⟩ := HK.out
      go_wp2_with fail
      clear x0 x1 y0 y1 y2 y3 y4 y5
      refine (puts_true l n a c [] 2 none 0 _ (HP.out) HF.out HfN.out HX.out hna (by omega) (.inl rfl) (by simp)).mono ?_
      rintro e w22 ⟨rfl, hb⟩
      replace HX := Lib.hid (HX.out.keep hb)
      replace HK := Lib.hid (HK.out.keep hb)
      replace HB := bel_tr HB hb
      clear hb
      obtain ⟨⟨x0, x1⟩, y0, y1, y2, y3, y4, y5⟩ := HK.out
      go_wp2_with fail
      clear x0 x1 y0 y1 y2 y3 y4 y5
      refine (known_any _).mono ?_
      rintro e w23 ⟨rfl, hb⟩
      replace HB := bel_tr HB hb
      clear hb
      go_wp2_with fail
      go_ret
      exact ⟨rfl, HB.out⟩
    · have HvN := Lib.hid hvn
      have HC0 := Lib.hid (fun w => validN_ref n HiN.out w)
      rw [hvn] at HC0
      clear hvn
      obtain ⟨⟨x0, x1⟩, y0, y1, y2, y3, y4, y5⟩ := HK.out
      go_wp2_with fail
      clear x0 x1 y0 y1 y2 y3 y4 y5
      refine (HC0.out _).mono ?_
      rintro e w24 ⟨rfl, hb⟩
      replace HX := Lib.hid (HX.out.keep hb)
      replace HK := Lib.hid (HK.out.keep hb)
      replace HB := bel_tr HB hb
      clear HC0
      clear hb
      go_wp2_with (at_builtin; refine wpList_appN rfl _ _ _ rfl Tryz.underlying22 infoN _ _ rfl (ON.nil _ _ E) a l c l.length rfl rfl HX.out hna (by simp; omega) (Nat.le_refl _) ?_)
      intro v1 w80 ho hg3 _
      have hb := (Below.refl _ _).grown hg3 (Nat.le_refl _) (fun k hk => by cases hk)
      obtain ⟨a1, c1, rfl, hr1, hn1, -, -⟩ := ho.row
      replace HX := Lib.hid (HX.out.keep hb)
      replace HK := Lib.hid (HK.out.keep hb)
      replace HB := bel_tr HB hb
      have HR1 := Lib.hid hr1
      have HN1 := Lib.hid hn1
      clear hb ho hg3 hr1 hn1
      have HC0 := Lib.hid (put_ref l n a c w80 HH.out HvN.out HX.out hna hlc (by omega))
      have HP := Lib.hid (putP_yes HH.out HvN.out)
      have HLe := put_len1 l n
      generalize hkk : putN l n = kk at *
      obtain ⟨y, q⟩ := kk
      simp only at HP HC0 HLe
      clear hkk
      obtain ⟨⟨x0, x1⟩, y0, y1, y2, y3, y4, y5⟩ := HK.out
      go_wp2_with fail
      clear x0 x1 y0 y1 y2 y3 y4 y5
      refine HC0.out.mono ?_
      rintro e w81 ⟨v, rfl, ho, hb⟩
      obtain ⟨g1, m1, rfl, hr3, -, -, -⟩ := ho.row
      replace HX := Lib.hid (HX.out.keep hb)
      replace HK := Lib.hid (HK.out.keep hb)
      replace HB := bel_tr HB hb
      replace HR1 := Lib.hid (HR1.out.keep hb)
      have HR3 := Lib.hid hr3
      clear hb ho hr3 HC0
      have HC0 := Lib.hid (puts_true l n a1 c1 y q g1 m1 w81 HP.out HF.out HfN.out HR1.out (fun e => (HN1.out e).1) (by omega) HR3.out (by omega))
      obtain ⟨⟨x0, x1⟩, y0, y1, y2, y3, y4, y5⟩ := HK.out
      go_wp2_with fail
      clear x0 x1 y0 y1 y2 y3 y4 y5
      refine HC0.out.mono ?_
      rintro e w82 ⟨rfl, hb⟩
      replace HX := Lib.hid (HX.out.keep hb)
      replace HK := Lib.hid (HK.out.keep hb)
      replace HB := bel_tr HB hb
      replace HR1 := Lib.hid (HR1.out.keep hb)
      clear hb HC0 HR3
      have HC0 := Lib.hid (equal_ref l l a1 a c1 c w82 HR1.out HX.out (by omega) (by omega))
      rw [decide_eq_true rfl] at HC0
      obtain ⟨⟨x0, x1⟩, y0, y1, y2, y3, y4, y5⟩ := HK.out
      go_wp2_with fail
      clear x0 x1 y0 y1 y2 y3 y4 y5
      refine HC0.out.mono ?_
      rintro e w83 ⟨rfl, hb⟩
      replace HB := bel_tr HB hb
      clear hb HC0 HR1
      go_wp2_with fail
      refine (known_any _).mono ?_
      rintro e w25 ⟨rfl, hb⟩
      replace HB := bel_tr HB hb
      clear hb
      go_wp2_with fail
      go_ret
      exact ⟨rfl, HB.out⟩
  have HHd := Lib.hid hvd
  rw [hvd] at HR
  clear hvd
  rcases ha : atS l (d1, d2) with _ | r
  · have HFi := Lib.hid (findS_none HH.out HHd.out ha)
    have hg2 : decide (ix < 0) = true := decide_eq_true (by rw [HIx.out]; exact idx_neg.2 ha)
    clear ha
    go_enter Tryz.func4, Tryz.ntmps4
    go_wp2_with fail
    generalize ((w.alloc (.cells #[.int .i64 d1, .int .i64 d2] 33)).alloc (.cells (nc n) 35)) = w1 at *
    refine (HV.out _ HX.out (by omega)).mono ?_
    rintro e w17 ⟨rfl, hb⟩
    replace HX := Lib.hid (HX.out.keep hb)
    replace HK := Lib.hid (HK.out.keep hb)
    replace HB := bel_tr HB hb
    clear hb
    obtain ⟨⟨x0, x1⟩, y0, y1, y2, y3, y4, y5⟩ := HK.out
    go_wp2_with fail
    clear x0 x1 y0 y1 y2 y3 y4 y5
    refine (HG.out _ HX.out (by omega)).mono ?_
    rintro e w18 ⟨rfl, hb⟩
    replace HX := Lib.hid (HX.out.keep hb)
    replace HK := Lib.hid (HK.out.keep hb)
    replace HB := bel_tr HB hb
    clear hb
    obtain ⟨⟨x0, x1⟩, y0, y1, y2, y3, y4, y5⟩ := HK.out
    go_wp2_with fail
    clear x0 x1 y0 y1 y2 y3 y4 y5
    refine (HR.out _).mono ?_
    rintro e w26 ⟨rfl, hb⟩
    replace HX := Lib.hid (HX.out.keep hb)
    replace HK := Lib.hid (HK.out.keep hb)
    replace HB := bel_tr HB hb
    clear hb
    obtain ⟨⟨x0, x1⟩, y0, y1, y2, y3, y4, y5⟩ := HK.out
    go_wp2_with fail
    clear x0 x1 y0 y1 y2 y3 y4 y5
    refine (finds_true l (d1, d2) zeroN 9 a c _ HFi.out HF.out HfD.out HX.out (by omega)).mono ?_
    rintro e w27 ⟨rfl, hb⟩
    replace HX := Lib.hid (HX.out.keep hb)
    replace HK := Lib.hid (HK.out.keep hb)
    replace HB := bel_tr HB hb
    clear hb
    rcases hvn : validN n with _ | _
    · have HP := Lib.hid (putP_no2 (l := l) hvn)
      have HC0 := Lib.hid (fun w => validN_ref n HiN.out w)
      rw [hvn] at HC0
      clear hvn
      obtain ⟨⟨x0, x1⟩, y0, y1, y2, y3, y4, y5⟩ := HK.out
      go_wp2_with fail
      clear x0 x1 y0 y1 y2 y3 y4 y5
      refine (HC0.out _).mono ?_
      rintro e w28 ⟨rfl, hb⟩
      replace HX := Lib.hid (HX.out.keep hb)
      replace HK := Lib.hid (HK.out.keep hb)
      replace HB := bel_tr HB hb
      clear hb
      obtain ⟨⟨x0, x1⟩, y0, y1, y2, y3, y4, y5⟩ := HK.out
      go_wp2_with fail
      clear x0 x1 y0 y1 y2 y3 y4 y5
      refine (puts_true l n a c [] 2 none 0 _ (HP.out) HF.out HfN.out HX.out hna (by omega) (.inl rfl) (by simp)).mono ?_
      rintro e w29 ⟨rfl, hb⟩
      replace HX := Lib.hid (HX.out.keep hb)
      replace HK := Lib.hid (HK.out.keep hb)
      replace HB := bel_tr HB hb
      clear hb
      obtain ⟨⟨x0, x1⟩, y0, y1, y2, y3, y4, y5⟩ := HK.out
      go_wp2_with fail
      clear x0 x1 y0 y1 y2 y3 y4 y5
      refine (known_any _).mono ?_
      rintro e w30 ⟨rfl, hb⟩
      replace HB := bel_tr HB hb
      clear hb
      go_wp2_with fail
      go_ret
      exact ⟨rfl, HB.out⟩
    · have HvN := Lib.hid hvn
      have HC0 := Lib.hid (fun w => validN_ref n HiN.out w)
      rw [hvn] at HC0
      clear hvn
      obtain ⟨⟨x0, x1⟩, y0, y1, y2, y3, y4, y5⟩ := HK.out
      go_wp2_with fail
      clear x0 x1 y0 y1 y2 y3 y4 y5
      refine (HC0.out _).mono ?_
      rintro e w31 ⟨rfl, hb⟩
      replace HX := Lib.hid (HX.out.keep hb)
      replace HK := Lib.hid (HK.out.keep hb)
      replace HB := bel_tr HB hb
      clear HC0
      clear hb
      go_wp2_with (at_builtin; refine wpList_appN rfl _ _ _ rfl Tryz.underlying22 infoN _ _ rfl (ON.nil _ _ E) a l c l.length rfl rfl HX.out hna (by simp; omega) (Nat.le_refl _) ?_)
      intro v1 w80 ho hg3 _
      have hb := (Below.refl _ _).grown hg3 (Nat.le_refl _) (fun k hk => by cases hk)
      obtain ⟨a1, c1, rfl, hr1, hn1, -, -⟩ := ho.row
      replace HX := Lib.hid (HX.out.keep hb)
      replace HK := Lib.hid (HK.out.keep hb)
      replace HB := bel_tr HB hb
      have HR1 := Lib.hid hr1
      have HN1 := Lib.hid hn1
      clear hb ho hg3 hr1 hn1
      have HC0 := Lib.hid (put_ref l n a c w80 HH.out HvN.out HX.out hna hlc (by omega))
      have HP := Lib.hid (putP_yes HH.out HvN.out)
      have HLe := put_len1 l n
      generalize hkk : putN l n = kk at *
      obtain ⟨y, q⟩ := kk
      simp only at HP HC0 HLe
      clear hkk
      obtain ⟨⟨x0, x1⟩, y0, y1, y2, y3, y4, y5⟩ := HK.out
      go_wp2_with fail
      clear x0 x1 y0 y1 y2 y3 y4 y5
      refine HC0.out.mono ?_
      rintro e w81 ⟨v, rfl, ho, hb⟩
      obtain ⟨g1, m1, rfl, hr3, -, -, -⟩ := ho.row
      replace HX := Lib.hid (HX.out.keep hb)
      replace HK := Lib.hid (HK.out.keep hb)
      replace HB := bel_tr HB hb
      replace HR1 := Lib.hid (HR1.out.keep hb)
      have HR3 := Lib.hid hr3
      clear hb ho hr3 HC0
      have HC0 := Lib.hid (puts_true l n a1 c1 y q g1 m1 w81 HP.out HF.out HfN.out HR1.out (fun e => (HN1.out e).1) (by omega) HR3.out (by omega))
      obtain ⟨⟨x0, x1⟩, y0, y1, y2, y3, y4, y5⟩ := HK.out
      go_wp2_with fail
      clear x0 x1 y0 y1 y2 y3 y4 y5
      refine HC0.out.mono ?_
      rintro e w82 ⟨rfl, hb⟩
      replace HX := Lib.hid (HX.out.keep hb)
      replace HK := Lib.hid (HK.out.keep hb)
      replace HB := bel_tr HB hb
      replace HR1 := Lib.hid (HR1.out.keep hb)
      clear hb HC0 HR3
      have HC0 := Lib.hid (equal_ref l l a1 a c1 c w82 HR1.out HX.out (by omega) (by omega))
      rw [decide_eq_true rfl] at HC0
      obtain ⟨⟨x0, x1⟩, y0, y1, y2, y3, y4, y5⟩ := HK.out
      go_wp2_with fail
      clear x0 x1 y0 y1 y2 y3 y4 y5
      refine HC0.out.mono ?_
      rintro e w83 ⟨rfl, hb⟩
      replace HB := bel_tr HB hb
      clear hb HC0 HR1
      go_wp2_with fail
      refine (known_any _).mono ?_
      rintro e w32 ⟨rfl, hb⟩
      replace HB := bel_tr HB hb
      clear hb
      go_wp2_with fail
      go_ret
      exact ⟨rfl, HB.out⟩
  have HFi := Lib.hid (findS_some HH.out HHd.out ha)
  obtain ⟨k, hk, hk2, hk3⟩ := idx_some ha
  obtain rfl : ix = (k : Int) := HIx.out.trans hk2
  have hg2 : decide ((k : Int) < 0) = false := decide_eq_false (by omega)
  have hi0 : (k : Int) < (l.length : Int) := by omega
  obtain ⟨b1, o1, rfl, hq⟩ := na_of HX.out k hk
  rw [hk3] at hq
  have hixr := ixN b1 o1 l.length c k (k : Int) rfl hk
  have HQ : Hid (Pl w.heap.size (d1, d2) b1 (o1 + k * 6) r ((w.alloc (.cells #[.int .i64 d1, .int .i64 d2] 33)).alloc (.cells (nc n) 35))) := ⟨HK.out.1, hq⟩
  clear ha hk2 hk3 hq HIx
  go_enter Tryz.func4, Tryz.ntmps4
  go_wp2_with fail
  generalize ((w.alloc (.cells #[.int .i64 d1, .int .i64 d2] 33)).alloc (.cells (nc n) 35)) = w1 at *
  refine (HV.out _ HX.out (by omega)).mono ?_
  rintro e w33 ⟨rfl, hb⟩
  replace HX := Lib.hid (HX.out.keep hb)
  replace HK := Lib.hid (HK.out.keep hb)
  replace HB := bel_tr HB hb
  replace HQ := Lib.hid (HQ.out.keep hb)
  clear hb
  obtain ⟨⟨x0, x1⟩, y0, y1, y2, y3, y4, y5⟩ := HK.out
  go_wp2_with fail
  clear x0 x1 y0 y1 y2 y3 y4 y5
  refine (HG.out _ HX.out (by omega)).mono ?_
  rintro e w34 ⟨rfl, hb⟩
  replace HX := Lib.hid (HX.out.keep hb)
  replace HK := Lib.hid (HK.out.keep hb)
  replace HB := bel_tr HB hb
  replace HQ := Lib.hid (HQ.out.keep hb)
  clear hb
  obtain ⟨⟨x0, x1⟩, y0, y1, y2, y3, y4, y5⟩ := HK.out
  go_wp2_with fail
  clear x0 x1 y0 y1 y2 y3 y4 y5
  refine (HR.out _).mono ?_
  rintro e w35 ⟨rfl, hb⟩
  replace HX := Lib.hid (HX.out.keep hb)
  replace HK := Lib.hid (HK.out.keep hb)
  replace HB := bel_tr HB hb
  replace HQ := Lib.hid (HQ.out.keep hb)
  clear hb
  obtain ⟨⟨x0, x1⟩, y0, y1, y2, y3, y4, y5⟩ := HK.out
  go_wp2_with fail
  clear x0 x1 y0 y1 y2 y3 y4 y5
  have hb := (Below.refl w35.heap.size w35).drew
  replace HX := Lib.hid (HX.out.keep hb)
  replace HK := Lib.hid (HK.out.keep hb)
  replace HB := bel_tr HB hb
  replace HQ := Lib.hid (HQ.out.keep hb)
  clear hb
  refine Sch.wp_region_tn (Pl w.heap.size (d1, d2) b1 (o1 + k * 6) r) (.val 0 (.val 1 (.val 2 (.val 3 (.val 4 (.val 5 (.one 6 (.val 7 .done)))))))) (by kernel_rfl) (by kernel_rfl) HQ.out ?_
  repeat (first
    | (refine Sch.tn_q rfl rfl rfl (fun K hK => ?_); go_big_quiet_op; (first | refine hK _ ?_ | refine ⟨_, fun _ _ => rfl, hK _ ?_⟩); clear hK K)
    | (refine Sch.tn_chk _ _ _ rfl rfl rfl rfl rfl ?_; simp only [Act.put, List.setIfInBounds_toArray, List.set_cons_zero, List.set_cons_succ])
    | (refine Sch.tn_load _ _ _ _ _ rfl rfl rfl rfl (by first | exact Pl.ld | exact Pl.lq) rfl ?_; simp only [Act.put, List.setIfInBounds_toArray, List.set_cons_zero, List.set_cons_succ]))
  generalize w35.drew = w60 at *
  refine Sch.tn_e rfl rfl (fun K hK => ?_)
  go_wp2_with fail
  refine (finds_true l (d1, d2) r 0 (some ⟨b1, o1, none⟩) c _ HFi.out HF.out HfD.out HX.out (by omega)).mono ?_
  rintro e w36 ⟨rfl, hb⟩
  replace HX := Lib.hid (HX.out.keep hb)
  replace HK := Lib.hid (HK.out.keep hb)
  replace HB := bel_tr HB hb
  replace HQ := Lib.hid (HQ.out.keep hb)
  clear hb
  refine hK _ _ HQ.out ?_
  clear hK K
  repeat (first
    | (refine Sch.tn_q rfl rfl rfl (fun K hK => ?_); go_big_quiet_op; (first | refine hK _ ?_ | refine ⟨_, fun _ _ => rfl, hK _ ?_⟩); clear hK K)
    | (refine Sch.tn_chk _ _ _ rfl rfl rfl rfl rfl ?_; simp only [Act.put, List.setIfInBounds_toArray, List.set_cons_zero, List.set_cons_succ])
    | (refine Sch.tn_load _ _ _ _ _ rfl rfl rfl rfl (by first | exact Pl.ld | exact Pl.lq) rfl ?_; simp only [Act.put, List.setIfInBounds_toArray, List.set_cons_zero, List.set_cons_succ]))
  refine Sch.tn_n ?_
  clear HQ hixr
  rcases hvn : validN n with _ | _
  · have HP := Lib.hid (putP_no2 (l := l) hvn)
    have HC0 := Lib.hid (fun w => validN_ref n HiN.out w)
    rw [hvn] at HC0
    clear hvn
    obtain ⟨⟨x0, x1⟩, y0, y1, y2, y3, y4, y5⟩ := HK.out
    go_wp2_with fail
    clear x0 x1 y0 y1 y2 y3 y4 y5
    refine (HC0.out _).mono ?_
    rintro e w37 ⟨rfl, hb⟩
    replace HX := Lib.hid (HX.out.keep hb)
    replace HK := Lib.hid (HK.out.keep hb)
    replace HB := bel_tr HB hb
    clear hb
    obtain ⟨⟨x0, x1⟩, y0, y1, y2, y3, y4, y5⟩ := HK.out
    go_wp2_with fail
    clear x0 x1 y0 y1 y2 y3 y4 y5
    refine (puts_true l n (some ⟨b1, o1, none⟩) c [] 2 none 0 _ (HP.out) HF.out HfN.out HX.out hna (by omega) (.inl rfl) (by simp)).mono ?_
    rintro e w38 ⟨rfl, hb⟩
    replace HX := Lib.hid (HX.out.keep hb)
    replace HK := Lib.hid (HK.out.keep hb)
    replace HB := bel_tr HB hb
    clear hb
    obtain ⟨⟨x0, x1⟩, y0, y1, y2, y3, y4, y5⟩ := HK.out
    go_wp2_with fail
    clear x0 x1 y0 y1 y2 y3 y4 y5
    refine (known_any _).mono ?_
    rintro e w39 ⟨rfl, hb⟩
    replace HB := bel_tr HB hb
    clear hb
    go_wp2_with fail
    go_ret
    exact ⟨rfl, HB.out⟩
  · have HvN := Lib.hid hvn
    have HC0 := Lib.hid (fun w => validN_ref n HiN.out w)
    rw [hvn] at HC0
    clear hvn
    obtain ⟨⟨x0, x1⟩, y0, y1, y2, y3, y4, y5⟩ := HK.out
    go_wp2_with fail
    clear x0 x1 y0 y1 y2 y3 y4 y5
    refine (HC0.out _).mono ?_
    rintro e w40 ⟨rfl, hb⟩
    replace HX := Lib.hid (HX.out.keep hb)
    replace HK := Lib.hid (HK.out.keep hb)
    replace HB := bel_tr HB hb
    clear HC0
    clear hb
    go_wp2_with (at_builtin; refine wpList_appN rfl _ _ _ rfl Tryz.underlying22 infoN _ _ rfl (ON.nil _ _ E) (some ⟨b1, o1, none⟩) l c l.length rfl rfl HX.out hna (by simp; omega) (Nat.le_refl _) ?_)
    intro v1 w80 ho hg3 _
    have hb := (Below.refl _ _).grown hg3 (Nat.le_refl _) (fun k hk => by cases hk)
    obtain ⟨a1, c1, rfl, hr1, hn1, -, -⟩ := ho.row
    replace HX := Lib.hid (HX.out.keep hb)
    replace HK := Lib.hid (HK.out.keep hb)
    replace HB := bel_tr HB hb
    have HR1 := Lib.hid hr1
    have HN1 := Lib.hid hn1
    clear hb ho hg3 hr1 hn1
    have HC0 := Lib.hid (put_ref l n (some ⟨b1, o1, none⟩) c w80 HH.out HvN.out HX.out hna hlc (by omega))
    have HP := Lib.hid (putP_yes HH.out HvN.out)
    have HLe := put_len1 l n
    generalize hkk : putN l n = kk at *
    obtain ⟨y, q⟩ := kk
    simp only at HP HC0 HLe
    clear hkk
    obtain ⟨⟨x0, x1⟩, y0, y1, y2, y3, y4, y5⟩ := HK.out
    go_wp2_with fail
    clear x0 x1 y0 y1 y2 y3 y4 y5
    refine HC0.out.mono ?_
    rintro e w81 ⟨v, rfl, ho, hb⟩
    obtain ⟨g1, m1, rfl, hr3, -, -, -⟩ := ho.row
    replace HX := Lib.hid (HX.out.keep hb)
    replace HK := Lib.hid (HK.out.keep hb)
    replace HB := bel_tr HB hb
    replace HR1 := Lib.hid (HR1.out.keep hb)
    have HR3 := Lib.hid hr3
    clear hb ho hr3 HC0
    have HC0 := Lib.hid (puts_true l n a1 c1 y q g1 m1 w81 HP.out HF.out HfN.out HR1.out (fun e => (HN1.out e).1) (by omega) HR3.out (by omega))
    obtain ⟨⟨x0, x1⟩, y0, y1, y2, y3, y4, y5⟩ := HK.out
    go_wp2_with fail
    clear x0 x1 y0 y1 y2 y3 y4 y5
    refine HC0.out.mono ?_
    rintro e w82 ⟨rfl, hb⟩
    replace HX := Lib.hid (HX.out.keep hb)
    replace HK := Lib.hid (HK.out.keep hb)
    replace HB := bel_tr HB hb
    replace HR1 := Lib.hid (HR1.out.keep hb)
    clear hb HC0 HR3
    have HC0 := Lib.hid (equal_ref l l a1 (some ⟨b1, o1, none⟩) c1 c w82 HR1.out HX.out (by omega) (by omega))
    rw [decide_eq_true rfl] at HC0
    obtain ⟨⟨x0, x1⟩, y0, y1, y2, y3, y4, y5⟩ := HK.out
    go_wp2_with fail
    clear x0 x1 y0 y1 y2 y3 y4 y5
    refine HC0.out.mono ?_
    rintro e w83 ⟨rfl, hb⟩
    replace HB := bel_tr HB hb
    clear hb HC0 HR1
    go_wp2_with fail
    refine (known_any _).mono ?_
    rintro e w41 ⟨rfl, hb⟩
    replace HB := bel_tr HB hb
    clear hb
    go_wp2_with fail
    go_ret
    exact ⟨rfl, HB.out⟩
end Go.Proofs.YtfpfihmihlmobaaGreat.Qs
