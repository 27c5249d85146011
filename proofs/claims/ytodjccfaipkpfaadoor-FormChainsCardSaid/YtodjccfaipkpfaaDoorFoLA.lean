/-
  The laws FormWords, FormFaults, FormWholes.
-/
import Derived.Test.YtodjccfaipkpfaaDoorFoKn
import Derived.Test.YtodjccfaipkpfaaDoorMFoR
namespace Go.Proofs.YtodjccfaipkpfaaDoor.Fo
set_option linter.unusedVariables false
open Go.RowKit V Go.Sort D Nd Qs Wk
attribute [local irreducible] Sch.heldN Sch.stepV Sch.stepE

set_option maxRecDepth 100000 in
set_option maxHeartbeats 4000000 in
theorem words_law (f : Int) (w : World) (hW : Ws w) : Calls Tryd.prog 5 #[.int .i64 f] w fun e w' => e = .returned (.bool true) ∧ Below w.heap.size w w' := by
  have H1 := Lib.hid (word_any f w hW)
  have H2 := Lib.hid (word_ref f w)
  have HKn := Lib.hid (known_any w hW)
  clear hW
  generalize (⟨(wordS f).toArray⟩ : ByteArray) = s at *
  go_enter Tryd.func5, Tryd.ntmps5
  go_wp2_with fail
  refine H1.out.mono ?_
  rintro e w2 ⟨rfl, hw⟩
  obtain rfl : w = w2 := hw.symm
  clear hw H1
  go_wp2_with fail
  refine H2.out.mono ?_
  rintro e w2 ⟨rfl, hw⟩
  obtain rfl : w = w2 := hw.symm
  clear hw H2
  go_wp2_with fail
  refine HKn.out.mono ?_
  rintro e w3 ⟨rfl, hb⟩
  have HB := Lib.hid hb
  clear hb HKn
  go_wp2_with fail
  go_ret
  exact ⟨rfl, HB.out⟩

theorem eqN_true (l : List Nt) (a b : Option Addr) (c d : Nat) (w : World) (hx : RowN w a l) (hy : RowN w b l) (hl : l.length ≤ 1000000) :
    Calls Tryd.prog 10 #[.slice a l.length c, .slice b l.length d] w fun e w' => e = .returned (.bool true) ∧ Below w.heap.size w w' := by
  have h := Qs.equal_ref l l a b c d w hx hy hl hl
  rw [decide_eq_true rfl] at h
  exact h
theorem bel_none {w w1 : World} (hg : w.grownBy w1 none) : Below w.heap.size w w1 := ⟨hg.os, hg.tape, hg.output, hg.size, fun b hb => hg.block b hb (by simp)⟩
set_option maxRecDepth 100000 in
set_option maxHeartbeats 4000000 in
theorem faults_law (l : List Nt) (a : Option Addr) (c : Nat) (w : World) (hW : Ws w) (hf : ∀ x ∈ l, fitN x) (h32 : ∀ x ∈ l, i32 x.2.2.2) (hx : RowN w a l) (hna : a = none → c = 0) :
    Calls Tryd.prog 3 #[.slice a l.length c] w fun e w' => e = .returned (.bool true) ∧ Below w.heap.size w w' := by
  have HKn := Lib.hid (fun w h => known_any w h)
  have HW := Lib.hid hW
  have HB := Lib.hid (Below.refl w.heap.size w)
  by_cases hbig : 40 < l.length
  · have hg : (40 : Int) < (l.length : Int) := by omega
    clear hbig hf h32 hx hna
    go_enter Tryd.func3, Tryd.ntmps3
    go_wp2_with fail
    refine (HKn.out _ HW.out).mono ?_
    rintro e w2 ⟨rfl, hb⟩
    replace HB := bel_tr HB hb
    clear hb HKn
    go_wp2_with fail
    go_ret
    exact ⟨rfl, HB.out⟩
  have hle : l.length ≤ 40 := by omega
  have hng : ¬ (40 : Int) < (l.length : Int) := by omega
  have HX := Lib.hid hx
  have HLe := Lib.hid hle
  have HNa := Lib.hid hna
  have HRf := Lib.hid (fun w h => faults_ref l a c w h32 h (by omega))
  have HFt := Lib.hid (fun aX bX cX dX w h1 h2 => faults_true l (faultS l) aX bX cX dX w rfl hf h1 h2 (by omega))
  have HEl := Lib.hid (fun aX aY cX cY w h1 h2 => eqN_true l aX aY cX cY w h1 h2 (by omega))
  clear hbig hf h32 hx hna hle hW
  generalize faultS l = T at *
  go_enter Tryd.func3, Tryd.ntmps3
  go_wp2_with (at_builtin; refine wpList_appN rfl _ _ _ rfl Tryd.underlying22 infoN (.slice none 0 0) [] rfl (ON.nil _ w.heap.size _) a l c l.length rfl rfl HX.out HNa.out (by have := HLe.out; simp only [List.length_nil]; omega) (Nat.le_refl _) ?_)
  intro v5 w5 ho hg _
  have hb := bel_none hg
  replace HB := bel_tr HB hb
  replace HX := Lib.hid (HX.out.keep hb)
  obtain ⟨a5, c5, rfl, hr5, -⟩ := ON.row ho
  have HR := Lib.hid hr5
  clear ho hg hb hr5
  go_wp2_with fail
  refine (HRf.out _ HX.out).mono ?_
  rintro e w6 ⟨v6, rfl, ho, hb⟩
  obtain ⟨a6, c6, rfl, hr6, -⟩ := OD.row ho
  have HT := Lib.hid hr6
  replace HB := bel_tr HB hb
  replace HX := Lib.hid (HX.out.keep hb)
  replace HR := Lib.hid (HR.out.keep hb)
  clear ho hb hr6 HRf
  go_wp2_with fail
  refine (HFt.out _ _ _ _ _ HR.out HT.out).mono ?_
  rintro e w7 ⟨rfl, hb⟩
  replace HB := bel_tr HB hb
  replace HX := Lib.hid (HX.out.keep hb)
  replace HR := Lib.hid (HR.out.keep hb)
  clear hb HFt HT
  go_wp2_with fail
  refine (HEl.out _ _ _ _ _ HR.out HX.out).mono ?_
  rintro e w8 ⟨rfl, hb⟩
  replace HB := bel_tr HB hb
  clear hb HEl HR HX
  go_wp2_with fail
  refine (HKn.out _ (HW.out.keep HB.out)).mono ?_
  rintro e w9 ⟨rfl, hb⟩
  replace HB := bel_tr HB hb
  clear hb HKn
  go_wp2_with fail
  go_ret
  exact ⟨rfl, HB.out⟩

set_option maxRecDepth 100000 in
set_option maxHeartbeats 4000000 in
theorem wholes_law (l : List Nt) (a : Option Addr) (c : Nat) (w : World) (hW : Ws w) (hf : ∀ x ∈ l, fitN x) (h32 : ∀ x ∈ l, i32 x.2.2.2) (hx : RowN w a l) (hna : a = none → c = 0) :
    Calls Tryd.prog 4 #[.slice a l.length c] w fun e w' => e = .returned (.bool true) ∧ Below w.heap.size w w' := by
  have HKn := Lib.hid (fun w h => known_any w h)
  have HW := Lib.hid hW
  have HB := Lib.hid (Below.refl w.heap.size w)
  by_cases hbig : 40 < l.length
  · have hg : (40 : Int) < (l.length : Int) := by omega
    clear hbig hf h32 hx hna
    go_enter Tryd.func4, Tryd.ntmps4
    go_wp2_with fail
    refine (HKn.out _ HW.out).mono ?_
    rintro e w2 ⟨rfl, hb⟩
    replace HB := bel_tr HB hb
    clear hb HKn
    go_wp2_with fail
    go_ret
    exact ⟨rfl, HB.out⟩
  have hle : l.length ≤ 40 := by omega
  have hng : ¬ (40 : Int) < (l.length : Int) := by omega
  have HX := Lib.hid hx
  have HLe := Lib.hid hle
  have HNa := Lib.hid hna
  have HVr := Lib.hid (fun w h => validS_ref l a c w h32 h (by omega))
  rcases hv : validS l with _ | _
  · have HWt := Lib.hid (fun w h => whole_true l [] 2 a none c 0 w (by unfold wholeP; rw [hv]; rfl) hf h (RowN.nil _ _) (by omega))
    rw [hv] at HVr
    clear hbig hf h32 hx hna hle hW hv
    go_enter Tryd.func4, Tryd.ntmps4
    go_wp2_with fail
    refine (HVr.out _ HX.out).mono ?_
    rintro e w2 ⟨rfl, hb⟩
    replace HB := bel_tr HB hb
    replace HX := Lib.hid (HX.out.keep hb)
    clear hb HVr
    go_wp2_with fail
    refine (HWt.out _ HX.out).mono ?_
    rintro e w3 ⟨rfl, hb⟩
    replace HB := bel_tr HB hb
    clear hb HWt HX
    go_wp2_with fail
    refine (HKn.out _ (HW.out.keep HB.out)).mono ?_
    rintro e w9 ⟨rfl, hb⟩
    replace HB := bel_tr HB hb
    clear hb HKn
    go_wp2_with fail
    go_ret
    exact ⟨rfl, HB.out⟩
  · have HWp := Lib.hid (fun aX cX w h => whole_any l aX cX w hf h (by omega))
    rw [show wholeP l = (wholeS l, 0) by unfold wholeP; rw [hv]; rfl] at HWp
    have HWr := Lib.hid (fun w h => whole_ref l hv a c w h32 h (by omega))
    rw [hv] at HVr
    have HCl : Hid ((wholeS l).length ≤ 40) := by have := whole_len l; show _ ≤ _; omega
    have HEq := Lib.hid (fun aX aY cX cY w h1 h2 => eqN_true (wholeS l) aX aY cX cY w h1 h2 (by have := HCl.out; omega))
    have HEl := Lib.hid (fun aX aY cX cY w h1 h2 => eqN_true l aX aY cX cY w h1 h2 (by omega))
    clear hbig hf h32 hx hna hle hW hv
    generalize wholeS l = C at *
    have hcl : (C.length : Int) ≤ 40 := by have := HCl.out; omega
    go_enter Tryd.func4, Tryd.ntmps4
    go_wp2_with fail
    refine (HVr.out _ HX.out).mono ?_
    rintro e w2 ⟨rfl, hb⟩
    replace HB := bel_tr HB hb
    replace HX := Lib.hid (HX.out.keep hb)
    clear hb HVr
    go_wp2_with (at_builtin; refine wpList_appN rfl _ _ _ rfl Tryd.underlying22 infoN (.slice none 0 0) [] rfl (ON.nil _ w2.heap.size _) a l c l.length rfl rfl HX.out HNa.out (by have := HLe.out; simp only [List.length_nil]; omega) (Nat.le_refl _) ?_)
    intro v5 w5 ho hg _
    have hb := bel_none hg
    replace HB := bel_tr HB hb
    replace HX := Lib.hid (HX.out.keep hb)
    obtain ⟨a5, c5, rfl, hr5, -⟩ := ON.row ho
    have HR := Lib.hid hr5
    clear ho hg hb hr5
    have HZ := Lib.hid (Below.refl w5.heap.size w5)
    go_wp2_with fail
    refine (HWp.out a5 c5 _ HR.out).mono ?_
    rintro e w6 ⟨v6, rfl, ho, hb⟩
    replace HZ := bel_tr HZ hb
    have HO := Lib.hid ho
    have HX6 := Lib.hid (HX.out.keep hb)
    clear ho hb HWp
    go_wp2_with fail
    refine (HWr.out _ HX6.out).mono ?_
    rintro e w7 ⟨v7, rfl, ho, hb⟩
    replace HZ := bel_tr HZ hb
    replace HO := Lib.hid (HO.out.below hb)
    obtain ⟨a7, c7, rfl, hr7, -⟩ := ON.row ho
    obtain ⟨a6, c6, rfl, hr6, -, -, hx6⟩ := ON.row HO.out
    have HEc := Lib.hid (HEq.out a6 a7 c6 c7 _ hr6 hr7)
    have HX6 : Hid (∀ x, a6 = some x → x = ⟨x.block, 0, none⟩ ∧ w5.heap.size ≤ x.block) := fun x h => ⟨(hx6 x h).1, (hx6 x h).2.2.1⟩
    clear ho hb hr6 hr7 hx6 HWr HEq
    go_wp2_with fail
    refine HEc.out.mono ?_
    rintro e w8 ⟨rfl, hb⟩
    replace HZ := bel_tr HZ hb
    replace HO := Lib.hid (HO.out.below hb)
    clear hb HEc
    go_wp2_with fail
    go_loopw [6, 37] (fun _ i wr => ∃ (k : Nat) (M : List Nt), k ≤ C.length ∧ i = .int .i64 (k : Int) ∧ M.length = C.length ∧ Hid (Below w5.heap.size w5 wr) ∧ Hid (ON wr w5.heap.size 37 (.slice a6 C.length c6) M)) (fun _ i _ => C.length - (intOf i).toNat)
    case atStart => exact ⟨0, C, Nat.zero_le _, rfl, rfl, HZ, HO⟩
    case round =>
      clear HZ HO
      obtain ⟨k, M, hk, rfl, hM, HZ, HO⟩ := hrel
      by_cases hlt : k < C.length
      · have hi0 : (k : Int) < (C.length : Int) := by omega
        have hkM : k < M.length := by omega
        obtain ⟨g, rfl⟩ : ∃ g, a6 = some ⟨g, 0, none⟩ := by
          rcases a6 with _ | x
          · rcases (ON.r HO.out).1 with h | ⟨b, o, h, -⟩
            · rw [h] at hkM; exact absurd hkM (Nat.not_lt_zero _)
            · cases h
          · obtain ⟨e, -⟩ := HX6.out x rfl
            exact ⟨x.block, by rw [← e]⟩
        have hgb : w5.heap.size ≤ g := (HX6.out _ rfl).2
        have HGb := Lib.hid hgb
        have hix := ixN g 0 C.length c6 k (k : Int) rfl hlt
        have hfr := HO.out.free (k * 6 + 4)
        have hcl2 := (HO.out.na k hkM).2.2.2.2.1
        have HM := Lib.hid hM
        clear hgb
        go_wp2_with fail
        refine ⟨⟨k + 1, M.set k (M[k].1, M[k].2.1, wrap64 (M[k].2.2.1 + 1), M[k].2.2.2), by omega, by go_num, by rw [List.length_set]; exact HM.out, HZ.out.setCell (p := ⟨g, _, none⟩) HGb.out _, HO.out.putTime hkM _⟩, ?_⟩
        simp [intOf]; omega
      · obtain rfl : k = C.length := by omega
        have hend : ¬ (C.length : Int) < (C.length : Int) := by omega
        have HX9 := Lib.hid (HX.out.keep HZ.out)
        have HR9 := Lib.hid (HR.out.keep HZ.out)
        replace HB := bel_tr HB HZ.out
        clear HO HZ HX HR hlt hk
        go_wp2_with fail
        refine (HEl.out _ _ _ _ _ HR9.out HX9.out).mono ?_
        rintro e w9 ⟨rfl, hb⟩
        replace HB := bel_tr HB hb
        clear hb HEl HR9 HX9
        go_wp2_with fail
        refine (HKn.out _ (HW.out.keep HB.out)).mono ?_
        rintro e w9 ⟨rfl, hb⟩
        replace HB := bel_tr HB hb
        clear hb HKn
        go_wp2_with fail
        go_ret
        exact ⟨rfl, HB.out⟩
end Go.Proofs.YtodjccfaipkpfaaDoor.Fo
