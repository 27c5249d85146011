/-
  The law IndexTexts.
-/
import Derived.Test.YteojbekkbgcmnabIxKn
import Derived.Test.YteojbekkbgcmnabIxQ
import Derived.Test.YteojbekkbgcmnabMQAsk
namespace Go.Proofs.Yteojbekkbgcmnab.Un
set_option linter.unusedVariables false
open Go.RowKit V Go.Shelf Go.Sort D Nd Qs Wk Ix
attribute [local irreducible] Sch.heldN Sch.stepV Sch.stepE

set_option maxRecDepth 100000 in
set_option maxHeartbeats 8000000 in
theorem texts_law (l : List Nt) (a : Option Addr) (c : Nat) (w : World) (hi : ∀ x ∈ l, i32 x.2.2.2) (hx : RowN w a l) (hna : a = none → c = 0) :
    Calls Try.prog 3 #[.slice a l.length c] w fun e w' => e = .returned (.bool true) ∧ Below w.heap.size w w' := by
  have HB := Lib.hid (Below.refl w.heap.size w)
  by_cases hbig : 40 < l.length
  · have hg : (40 : Int) < (l.length : Int) := by omega
    go_enter Try.func3, Try.ntmps3
    go_wp2_with fail
    refine (knownI_any _).mono ?_
    rintro e w99 ⟨rfl, hb⟩
    replace HB := Lib.hid (bel_tr HB.out hb)
    clear hb
    go_wp2_with fail
    go_ret
    exact ⟨rfl, HB.out⟩
  have hle : l.length ≤ 40 := by omega
  have hng : ¬ (40 : Int) < (l.length : Int) := by omega
  have HX := Lib.hid hx
  have HLe := Lib.hid hle
  have HNa := Lib.hid hna
  have HVl := Lib.hid (fun w h => validS_ref l a c w hi h (by omega))
  rcases hv : validS l with _ | _
  · rw [hv] at HVl
    have HT := Lib.hid (fun w h => texts_true l [] 2 a c w h (by omega) (text_no hv))
    have HC := Lib.hid (fun w h => chars_true l [] 2 a none c 0 w h (by omega) (runesQ_no hv) (.inl rfl) (by decide))
    have HH := Lib.hid (fun w h => has_true l 0 2 a c w h (by omega) (len_no hv))
    clear hv hbig hi hx hle hna
    go_enter Try.func3, Try.ntmps3
    go_wp2_with fail
    refine (HVl.out _ HX.out).mono ?_
    rintro e w11 ⟨rfl, hb⟩
    replace HB := Lib.hid (bel_tr HB.out hb)
    replace HX := Lib.hid (HX.out.keep hb)
    clear hb
    go_wp2_with fail
    refine (HT.out _ HX.out).mono ?_
    rintro e w12 ⟨rfl, hb⟩
    replace HB := Lib.hid (bel_tr HB.out hb)
    replace HX := Lib.hid (HX.out.keep hb)
    clear hb
    go_wp2_with fail
    refine (HC.out _ HX.out).mono ?_
    rintro e w13 ⟨rfl, hb⟩
    replace HB := Lib.hid (bel_tr HB.out hb)
    replace HX := Lib.hid (HX.out.keep hb)
    clear hb
    go_wp2_with fail
    refine (HH.out _ HX.out).mono ?_
    rintro e w14 ⟨rfl, hb⟩
    replace HB := Lib.hid (bel_tr HB.out hb)
    clear hb
    go_wp2_with fail
    refine (knownI_any _).mono ?_
    rintro e w99 ⟨rfl, hb⟩
    replace HB := Lib.hid (bel_tr HB.out hb)
    clear hb
    go_wp2_with fail
    go_ret
    exact ⟨rfl, HB.out⟩
  rw [hv] at HVl
  have HTr := Lib.hid (fun w h => textR_ref l hv (by omega) hi a c w h)
  have HRr := Lib.hid (fun w h => runesR_ref l hv (by omega) a c w h)
  have HRl : Hid ((runesS l).length ≤ 40) := by have := vis_len hv; show _ ≤ _; rw [runes_len]; omega
  have HT := Lib.hid (fun aX cX w h => texts_true l (R.encR (runesS l)).1 0 aX cX w h (by omega) (text_yes hv))
  have HC := Lib.hid (fun aX cX b d w h h2 => chars_true l (runesS l) 0 aX b cX d w h (by omega) (runesQ_yes hv) h2 (by have := HRl.out; omega))
  have HH := Lib.hid (fun aX cX w h => has_true l ((runesS l).length : Int) 0 aX cX w h (by omega) (len_yes hv))
  have HE := Lib.hid (fun aX aY cX cY w h1 h2 => eqN_true l aX aY cX cY w h1 h2 (by omega))
  clear hv hbig hi hx hle hna
  generalize (R.encR (runesS l)).1 = bs at *
  generalize runesS l = rs at *
  go_enter Try.func3, Try.ntmps3
  go_wp2_with fail
  refine (HVl.out _ HX.out).mono ?_
  rintro e w15 ⟨rfl, hb⟩
  replace HB := Lib.hid (bel_tr HB.out hb)
  replace HX := Lib.hid (HX.out.keep hb)
  clear hb
  obtain ⟨w3, hw3⟩ : ∃ w3, w3 = w15 := ⟨_, rfl⟩
  rw [← hw3] at HB HX ⊢
  clear hw3
  go_wp2_with (at_builtin; refine wpList_appN rfl _ _ _ rfl Try.underlying22 infoN (.slice none 0 0) [] rfl (ON.nil _ w3.heap.size _) a l c l.length rfl rfl HX.out HNa.out (by have := HLe.out; simp only [List.length_nil]; omega) (Nat.le_refl _) ?_)
  intro v5 w5 ho hg _
  have hb := bel_none hg
  replace HB := Lib.hid (bel_tr HB.out hb)
  replace HX := Lib.hid (HX.out.keep hb)
  obtain ⟨a5, c5, rfl, hr5, -⟩ := ON.row ho
  have HW := Lib.hid hr5
  clear ho hg hb hr5
  go_wp2_with fail
  refine (HTr.out _ HX.out).mono ?_
  rintro e w16 ⟨rfl, hb⟩
  replace HB := Lib.hid (bel_tr HB.out hb)
  replace HX := Lib.hid (HX.out.keep hb)
  replace HW := Lib.hid (HW.out.keep hb)
  clear hb
  go_wp2_with fail
  refine (HT.out _ _ _ HW.out).mono ?_
  rintro e w17 ⟨rfl, hb⟩
  replace HB := Lib.hid (bel_tr HB.out hb)
  replace HX := Lib.hid (HX.out.keep hb)
  replace HW := Lib.hid (HW.out.keep hb)
  clear hb
  go_wp2_with fail
  refine (HRr.out _ HX.out).mono ?_
  rintro e w6 ⟨v6, rfl, ho, hb⟩
  obtain ⟨a6, c6, rfl, hr6, -⟩ := G.OI.row ho
  have HI := Lib.hid hr6
  replace HB := Lib.hid (bel_tr HB.out hb)
  replace HX := Lib.hid (HX.out.keep hb)
  replace HW := Lib.hid (HW.out.keep hb)
  clear ho hb hr6
  go_wp2_with fail
  refine (HC.out _ _ _ _ _ HW.out HI.out).mono ?_
  rintro e w18 ⟨rfl, hb⟩
  replace HB := Lib.hid (bel_tr HB.out hb)
  replace HX := Lib.hid (HX.out.keep hb)
  replace HW := Lib.hid (HW.out.keep hb)
  clear hb
  clear HI
  go_wp2_with fail
  refine (HRr.out _ HX.out).mono ?_
  rintro e w7 ⟨v7, rfl, ho, hb⟩
  obtain ⟨a7, c7, rfl, -⟩ := G.OI.row ho
  replace HB := Lib.hid (bel_tr HB.out hb)
  replace HX := Lib.hid (HX.out.keep hb)
  replace HW := Lib.hid (HW.out.keep hb)
  clear ho hb
  go_wp2_with fail
  refine (HH.out _ _ _ HW.out).mono ?_
  rintro e w19 ⟨rfl, hb⟩
  replace HB := Lib.hid (bel_tr HB.out hb)
  replace HX := Lib.hid (HX.out.keep hb)
  replace HW := Lib.hid (HW.out.keep hb)
  clear hb
  go_wp2_with fail
  refine (HE.out _ _ _ _ _ HW.out HX.out).mono ?_
  rintro e w20 ⟨rfl, hb⟩
  replace HB := Lib.hid (bel_tr HB.out hb)
  clear hb
  go_wp2_with fail
  refine (knownI_any _).mono ?_
  rintro e w99 ⟨rfl, hb⟩
  replace HB := Lib.hid (bel_tr HB.out hb)
  clear hb
  go_wp2_with fail
  go_ret
  exact ⟨rfl, HB.out⟩
end Go.Proofs.Yteojbekkbgcmnab.Un
