/-
  The examples.
-/
import Derived.Test.YtmmcnpcijeahcaaJLaw
namespace Go.Proofs.Ytmmcnpcijeahcaa.J
set_option linter.unusedVariables false
open Go.RowKit V Go.Shelf

/-- A box of a pair. -/
def Bp (w : World) (b : Nat) (x : Pr) : Prop := w.cell? ⟨b, 0, none⟩ = some (.int .i64 x.1) ∧ w.cell? ⟨b, 1, none⟩ = some (.string x.2)
theorem Bp.keep {w w' : World} {b : Nat} {x : Pr} (h : Bp w b x) (hb : Below w.heap.size w w') : Bp w' b x := ⟨keep_cell h.1 hb, keep_cell h.2 hb⟩
theorem Bp.gb {w w' : World} {b g : Nat} {x : Pr} (h : Bp w b x) (hg : w.grownBy w' (some g)) (hne : b ≠ g) : Bp w' b x := by
  have e := hg.block b (lt_of_cell h.1) (by simpa using hne)
  exact ⟨(World.cell?_of_block (w := w) e).trans h.1, (World.cell?_of_block (w := w) e).trans h.2⟩
theorem load_pair {w : World} {b : Nat} {x : Pr} (h : Bp w b x) : (Instr.loadAt E (.pointer (some ⟨b, 0, none⟩))).run Try.prog w = .ok (pv x) w := by
  obtain ⟨h0, h1⟩ := h
  go_simp
/-- The three boxes of the examples. -/
def Kb (B : Nat) (w : World) : Prop := Bp w B (2, ⟨#[98]⟩) ∧ Bp w (B + 1) (5, ⟨#[99]⟩) ∧ Bp w (B + 1 + 1) (0, ⟨#[]⟩)
theorem Kb.keep {B : Nat} {w w' : World} (h : Kb B w) (hb : Below w.heap.size w w') : Kb B w' := ⟨h.1.keep hb, h.2.1.keep hb, h.2.2.keep hb⟩
theorem Kb.gb {B g : Nat} {w w' : World} (h : Kb B w) (hg : w.grownBy w' (some g)) (hlt : g < B) : Kb B w' := ⟨h.1.gb hg (by omega), h.2.1.gb hg (by omega), h.2.2.gb hg (by omega)⟩
theorem kb2 {B : Nat} : ∀ w, Kb B w → (Instr.loadAt E (.pointer (some ⟨B, 0, none⟩))).run Try.prog w = .ok (pv (2, ⟨#[98]⟩)) w := fun w h => load_pair h.1
theorem kb5 {B : Nat} : ∀ w, Kb B w → (Instr.loadAt E (.pointer (some ⟨B + 1, 0, none⟩))).run Try.prog w = .ok (pv (5, ⟨#[99]⟩)) w := fun w h => load_pair h.2.1
theorem kb0 {B : Nat} : ∀ w, Kb B w → (Instr.loadAt E (.pointer (some ⟨B + 1 + 1, 0, none⟩))).run Try.prog w = .ok (pv (0, ⟨#[]⟩)) w := fun w h => load_pair h.2.2

set_option maxRecDepth 100000 in
set_option maxHeartbeats 8000000 in
theorem known_any (w : World) : Calls Try.prog 9 #[] w fun e w' => e = .returned (.bool true) ∧ Below w.heap.size w w' := by
  have HMa := Lib.hid (made_any false w)
  go_enter Try.func9, Try.ntmps9
  go_wp2_with fail
  refine HMa.out.mono ?_
  rintro e w1 ⟨g, rfl, hg, hm, hb⟩
  have HG : Hid (w.heap.size ≤ g ∧ g < w1.heap.size) := ⟨hg, hm.lt⟩
  have HM := Lib.hid hm
  have HB := Lib.hid hb
  clear hg hm hb HMa
  go_wp2_with fail
  have HS : Hid (Kb w1.heap.size (((w1.alloc (.cells #[.int .i64 2, .string ⟨#[98]⟩] E)).alloc (.cells #[.int .i64 5, .string ⟨#[99]⟩] E)).alloc (.cells #[.int .i64 0, .string ⟨#[]⟩] E))) := ⟨⟨by go_simp, by go_simp⟩, ⟨by go_simp, by go_simp⟩, ⟨by go_simp, by go_simp⟩⟩
  have hb0 : Below w1.heap.size w1 (((w1.alloc (.cells #[.int .i64 2, .string ⟨#[98]⟩] E)).alloc (.cells #[.int .i64 5, .string ⟨#[99]⟩] E)).alloc (.cells #[.int .i64 0, .string ⟨#[]⟩] E)) := ((bel_box _ _).alloc (by simp) _).alloc (by simp; omega) _
  replace HM := Lib.hid (HM.out.keep hb0)
  replace HB := Lib.hid (bel_tr HB.out hb0)
  clear hb0
  have HGB : Hid (g < w1.heap.size) := HG.out.2
  generalize ((w1.alloc (.cells #[.int .i64 2, .string ⟨#[98]⟩] E)).alloc (.cells #[.int .i64 5, .string ⟨#[99]⟩] E)).alloc (.cells #[.int .i64 0, .string ⟨#[]⟩] E) = w2 at *
  generalize w1.heap.size = B at *
  go_cut [50] from 9 to 49 (fun c wx => c = .bool false ∧ Hid (Mp wx g false [(2, ⟨#[98]⟩), (5, ⟨#[99]⟩)]) ∧ Hid (Kb B wx) ∧ Hid (Below w.heap.size w wx))
  case first =>
    have hb0 : Below w2.heap.size w2 w2.drew := (Below.refl _ _).drew
    replace HM := Lib.hid (HM.out.keep hb0)
    replace HS := Lib.hid (HS.out.keep hb0)
    replace HB := Lib.hid (bel_tr HB.out hb0)
    clear hb0
    refine Sch.wp_region_tn (Kb B) (.val 0 (.val 1 (.val 2 (.val 3 (.one 4 (.val 5 (.val 6 (.val 7 (.val 8 (.one 9 (.val 10 (.val 11 (.val 12 (.val 13 (.one 14 (.val 15 (.val 16 (.val 17 (.val 18 (.one 19 (.val 20 (.val 21 (.val 22 (.val 23 (.one 24 (.val 25 (.val 26 (.val 27 (.val 28 (.one 29 (.val 30 (.val 31 (.val 32 (.val 33 (.val 36 (.val 37 (.two 34 (.two 35 (.one 38 (.one 39 (.val 40 (.val 41 .done)))) 38 (.one 35 (.one 39 (.val 40 (.val 41 .done))))) 38 (.one 34 (.one 35 (.one 39 (.val 40 (.val 41 .done)))))))))))))))))))))))))))))))))))))))))) (by kernel_rfl) (by kernel_rfl) HS.out ?_
    repeat (first
      | (refine Sch.tn_q rfl rfl rfl (fun K hK => ?_); go_big_quiet_op; (first | refine hK _ ?_ | refine ⟨_, fun _ _ => rfl, hK _ ?_⟩); clear hK K)
      | (refine Sch.tn_chk _ _ _ rfl rfl rfl rfl rfl ?_; simp only [Act.put, List.setIfInBounds_toArray, List.set_cons_zero, List.set_cons_succ])
      | (refine Sch.tn_load _ _ _ _ _ rfl rfl rfl rfl (by first | exact kb2 | exact kb5 | exact kb0) rfl ?_; simp only [Act.put, List.setIfInBounds_toArray, List.set_cons_zero, List.set_cons_succ]))
    generalize w2.drew = w3 at *
    have HC := Lib.hid (sets_law (fun w' => Mp w' g false [(5, ⟨#[97]⟩)] ∧ w3.grownBy w' (some g)) (some ⟨g, 0, none⟩) 5 ⟨#[97]⟩ ⟨#[]⟩ false w3 (by
      have h := set_yes g false [] 5 ⟨#[97]⟩ w3 (by decide) HM.out
      rw [show getR false [] 5 = (⟨#[]⟩, false) from rfl, show setR false [] 5 ⟨#[97]⟩ = [(5, ⟨#[97]⟩)] from rfl] at h
      exact h))
    refine Sch.tn_e rfl rfl (fun K hK => ?_)
    go_wp2_with fail
    refine HC.out.mono ?_
    rintro e w4 ⟨rfl, hm, hg⟩
    replace HM := Lib.hid hm
    replace HS := Lib.hid (HS.out.gb hg HGB.out)
    replace HB := Lib.hid (below_gb HB.out hg HB.out.size HG.out.1)
    clear hm hg HC
    refine hK _ _ HS.out ?_
    clear hK K
    repeat (first
      | (refine Sch.tn_q rfl rfl rfl (fun K hK => ?_); go_big_quiet_op; (first | refine hK _ ?_ | refine ⟨_, fun _ _ => rfl, hK _ ?_⟩); clear hK K)
      | (refine Sch.tn_chk _ _ _ rfl rfl rfl rfl rfl ?_; simp only [Act.put, List.setIfInBounds_toArray, List.set_cons_zero, List.set_cons_succ])
      | (refine Sch.tn_load _ _ _ _ _ rfl rfl rfl rfl (by first | exact kb2 | exact kb5 | exact kb0) rfl ?_; simp only [Act.put, List.setIfInBounds_toArray, List.set_cons_zero, List.set_cons_succ]))
    have HC := Lib.hid (sets_law (fun w' => Mp w' g false [(2, ⟨#[98]⟩), (5, ⟨#[97]⟩)] ∧ w4.grownBy w' (some g)) (some ⟨g, 0, none⟩) 2 ⟨#[98]⟩ ⟨#[]⟩ false w4 (by
      have h := set_yes g false [(5, ⟨#[97]⟩)] 2 ⟨#[98]⟩ w4 (by decide) HM.out
      rw [show getR false [(5, ⟨#[97]⟩)] 2 = (⟨#[]⟩, false) from rfl, show setR false [(5, ⟨#[97]⟩)] 2 ⟨#[98]⟩ = [(2, ⟨#[98]⟩), (5, ⟨#[97]⟩)] from rfl] at h
      exact h))
    refine Sch.tn_e rfl rfl (fun K hK => ?_)
    go_wp2_with fail
    refine HC.out.mono ?_
    rintro e w5 ⟨rfl, hm, hg⟩
    replace HM := Lib.hid hm
    replace HS := Lib.hid (HS.out.gb hg HGB.out)
    replace HB := Lib.hid (below_gb HB.out hg HB.out.size HG.out.1)
    clear hm hg HC
    refine hK _ _ HS.out ?_
    clear hK K
    repeat (first
      | (refine Sch.tn_q rfl rfl rfl (fun K hK => ?_); go_big_quiet_op; (first | refine hK _ ?_ | refine ⟨_, fun _ _ => rfl, hK _ ?_⟩); clear hK K)
      | (refine Sch.tn_chk _ _ _ rfl rfl rfl rfl rfl ?_; simp only [Act.put, List.setIfInBounds_toArray, List.set_cons_zero, List.set_cons_succ])
      | (refine Sch.tn_load _ _ _ _ _ rfl rfl rfl rfl (by first | exact kb2 | exact kb5 | exact kb0) rfl ?_; simp only [Act.put, List.setIfInBounds_toArray, List.set_cons_zero, List.set_cons_succ]))
    have HC := Lib.hid (sets_law (fun w' => Mp w' g false [(2, ⟨#[98]⟩), (5, ⟨#[99]⟩)] ∧ w5.grownBy w' (some g)) (some ⟨g, 0, none⟩) 5 ⟨#[99]⟩ ⟨#[97]⟩ true w5 (by
      have h := set_yes g false [(2, ⟨#[98]⟩), (5, ⟨#[97]⟩)] 5 ⟨#[99]⟩ w5 (by decide) HM.out
      rw [show getR false [(2, ⟨#[98]⟩), (5, ⟨#[97]⟩)] 5 = (⟨#[97]⟩, true) from rfl, show setR false [(2, ⟨#[98]⟩), (5, ⟨#[97]⟩)] 5 ⟨#[99]⟩ = [(2, ⟨#[98]⟩), (5, ⟨#[99]⟩)] from rfl] at h
      exact h))
    refine Sch.tn_e rfl rfl (fun K hK => ?_)
    go_wp2_with fail
    refine HC.out.mono ?_
    rintro e w6 ⟨rfl, hm, hg⟩
    replace HM := Lib.hid hm
    replace HS := Lib.hid (HS.out.gb hg HGB.out)
    replace HB := Lib.hid (below_gb HB.out hg HB.out.size HG.out.1)
    clear hm hg HC
    refine hK _ _ HS.out ?_
    clear hK K
    repeat (first
      | (refine Sch.tn_q rfl rfl rfl (fun K hK => ?_); go_big_quiet_op; (first | refine hK _ ?_ | refine ⟨_, fun _ _ => rfl, hK _ ?_⟩); clear hK K)
      | (refine Sch.tn_chk _ _ _ rfl rfl rfl rfl rfl ?_; simp only [Act.put, List.setIfInBounds_toArray, List.set_cons_zero, List.set_cons_succ])
      | (refine Sch.tn_load _ _ _ _ _ rfl rfl rfl rfl (by first | exact kb2 | exact kb5 | exact kb0) rfl ?_; simp only [Act.put, List.setIfInBounds_toArray, List.set_cons_zero, List.set_cons_succ]))
    have HC := Lib.hid (gets_law (fun w' => Below w6.heap.size w6 w') (some ⟨g, 0, none⟩) 5 ⟨#[99]⟩ true w6 (get_yes g false [(2, ⟨#[98]⟩), (5, ⟨#[99]⟩)] 5 w6 HM.out))
    refine Sch.tn_e rfl rfl (fun K hK => ?_)
    go_wp2_with fail
    refine HC.out.mono ?_
    rintro e w7 ⟨rfl, hb⟩
    replace HM := Lib.hid (HM.out.keep hb)
    replace HS := Lib.hid (HS.out.keep hb)
    replace HB := Lib.hid (bel_tr HB.out hb)
    clear hb HC
    refine hK _ _ HS.out ?_
    clear hK K
    repeat (first
      | (refine Sch.tn_q rfl rfl rfl (fun K hK => ?_); go_big_quiet_op; (first | refine hK _ ?_ | refine ⟨_, fun _ _ => rfl, hK _ ?_⟩); clear hK K)
      | (refine Sch.tn_chk _ _ _ rfl rfl rfl rfl rfl ?_; simp only [Act.put, List.setIfInBounds_toArray, List.set_cons_zero, List.set_cons_succ])
      | (refine Sch.tn_load _ _ _ _ _ rfl rfl rfl rfl (by first | exact kb2 | exact kb5 | exact kb0) rfl ?_; simp only [Act.put, List.setIfInBounds_toArray, List.set_cons_zero, List.set_cons_succ]))
    have HC := Lib.hid (gets_law (fun w' => Below w7.heap.size w7 w') (some ⟨g, 0, none⟩) 3 ⟨#[]⟩ false w7 (get_yes g false [(2, ⟨#[98]⟩), (5, ⟨#[99]⟩)] 3 w7 HM.out))
    refine Sch.tn_e rfl rfl (fun K hK => ?_)
    go_wp2_with fail
    refine HC.out.mono ?_
    rintro e w8 ⟨rfl, hb⟩
    replace HM := Lib.hid (HM.out.keep hb)
    replace HS := Lib.hid (HS.out.keep hb)
    replace HB := Lib.hid (bel_tr HB.out hb)
    clear hb HC
    refine hK _ _ HS.out ?_
    clear hK K
    repeat (first
      | (refine Sch.tn_q rfl rfl rfl (fun K hK => ?_); go_big_quiet_op; (first | refine hK _ ?_ | refine ⟨_, fun _ _ => rfl, hK _ ?_⟩); clear hK K)
      | (refine Sch.tn_chk _ _ _ rfl rfl rfl rfl rfl ?_; simp only [Act.put, List.setIfInBounds_toArray, List.set_cons_zero, List.set_cons_succ])
      | (refine Sch.tn_load _ _ _ _ _ rfl rfl rfl rfl (by first | exact kb2 | exact kb5 | exact kb0) rfl ?_; simp only [Act.put, List.setIfInBounds_toArray, List.set_cons_zero, List.set_cons_succ]))
    have HC := Lib.hid (len_yes g false [(2, ⟨#[98]⟩), (5, ⟨#[99]⟩)] w8 HM.out)
    refine Sch.tn_e rfl rfl (fun K hK => ?_)
    go_wp2_with fail
    refine HC.out.mono ?_
    rintro e w9 ⟨rfl, hb⟩
    replace HM := Lib.hid (HM.out.keep hb)
    replace HS := Lib.hid (HS.out.keep hb)
    replace HB := Lib.hid (bel_tr HB.out hb)
    clear hb HC
    refine hK _ _ HS.out ?_
    clear hK K
    repeat (first
      | (refine Sch.tn_q rfl rfl rfl (fun K hK => ?_); go_big_quiet_op; (first | refine hK _ ?_ | refine ⟨_, fun _ _ => rfl, hK _ ?_⟩); clear hK K)
      | (refine Sch.tn_chk _ _ _ rfl rfl rfl rfl rfl ?_; simp only [Act.put, List.setIfInBounds_toArray, List.set_cons_zero, List.set_cons_succ])
      | (refine Sch.tn_load _ _ _ _ _ rfl rfl rfl rfl (by first | exact kb2 | exact kb5 | exact kb0) rfl ?_; simp only [Act.put, List.setIfInBounds_toArray, List.set_cons_zero, List.set_cons_succ]))
    refine Sch.tn_two ?_ ?_
    · have HC := Lib.hid (All_yes g false [(2, ⟨#[98]⟩), (5, ⟨#[99]⟩)] w9 HM.out)
      refine Sch.tn_e rfl rfl (fun K hK => ?_)
      go_wp2_with fail
      refine HC.out.mono ?_
      rintro e w10 ⟨b1, b2, T, z, rfl, c1, c2, hT, hL, hl, hz0, hz1, hb⟩
      have HI : Hid (w10.cell? ⟨b1, 0, none⟩ = some (.pointer T.ad) ∧ w10.cell? ⟨b2, 0, none⟩ = some (.int .i64 z) ∧ T.In w10) := ⟨c1, c2, hT⟩
      have HJ : Hid (T.list.drop z.toNat = [(2, ⟨#[98]⟩), (5, ⟨#[99]⟩)] ∧ T.len ≤ 1000000 ∧ 0 ≤ z ∧ z ≤ 1000000) := ⟨hL, hl, hz0, hz1⟩
      replace HM := Lib.hid (HM.out.keep hb)
      replace HS := Lib.hid (HS.out.keep hb)
      replace HB := Lib.hid (bel_tr HB.out hb)
      clear hb HC c1 c2 hT hL hl hz0 hz1
      refine hK _ _ HS.out ?_
      clear hK K
      refine Sch.tn_two ?_ ?_
      · have HC := Lib.hid (pairs_it 9 HI.out.1 HI.out.2.1 HI.out.2.2 HJ.out.1 HJ.out.2.1 HJ.out.2.2.1 HJ.out.2.2.2 (by decide))
        refine Sch.tn_e rfl rfl (fun K hK => ?_)
        go_wp2_with fail
        refine HC.out.mono ?_
        rintro e w11 ⟨v, rfl, ho, hb⟩
        obtain ⟨av, cv, rfl, hr, -, -, -⟩ := ho.row
        have HRa : Hid (RowP w11 av [(2, ⟨#[98]⟩), (5, ⟨#[99]⟩)]) := hr
        replace HM := Lib.hid (HM.out.keep hb)
        replace HS := Lib.hid (HS.out.keep hb)
        replace HB := Lib.hid (bel_tr HB.out hb)
        clear hb HC ho hr HI HJ
        refine hK _ _ HS.out ?_
        clear hK K
        refine Sch.tn_e rfl rfl (fun K hK => ?_)
        go_wp2_with fail
        have hb := bel_box w11 (.cells #[.int .i64 2, .string ⟨#[98]⟩, .int .i64 5, .string ⟨#[99]⟩] E)
        have HRb : Hid (RowP (w11.alloc (.cells #[.int .i64 2, .string ⟨#[98]⟩, .int .i64 5, .string ⟨#[99]⟩] E)) (some ⟨w11.heap.size, 0, none⟩) [(2, ⟨#[98]⟩), (5, ⟨#[99]⟩)]) := RowP.lit w11 [(2, ⟨#[98]⟩), (5, ⟨#[99]⟩)] _ _ (0, 0) rfl
        replace HRa := Lib.hid (HRa.out.keep hb)
        replace HM := Lib.hid (HM.out.keep hb)
        replace HS := Lib.hid (HS.out.keep hb)
        replace HB := Lib.hid (bel_tr HB.out hb)
        refine hK _ _ HS.out ?_
        clear hK K
        clear hb
        generalize w11.alloc (.cells #[.int .i64 2, .string ⟨#[98]⟩, .int .i64 5, .string ⟨#[99]⟩] E) = w12 at *
        generalize w11.heap.size = gb at *
        have HC := Lib.hid (same_ref [(2, ⟨#[98]⟩), (5, ⟨#[99]⟩)] av (some ⟨gb, 0, none⟩) cv 2 w12 HRa.out HRb.out (by decide))
        refine Sch.tn_e rfl rfl (fun K hK => ?_)
        go_wp2_with fail
        refine HC.out.mono ?_
        rintro e w13 ⟨rfl, hb⟩
        replace HM := Lib.hid (HM.out.keep hb)
        replace HS := Lib.hid (HS.out.keep hb)
        replace HB := Lib.hid (bel_tr HB.out hb)
        clear hb HC HRa HRb
        refine hK _ _ HS.out ?_
        clear hK K
        repeat (first
          | (refine Sch.tn_q rfl rfl rfl (fun K hK => ?_); go_big_quiet_op; (first | refine hK _ ?_ | refine ⟨_, fun _ _ => rfl, hK _ ?_⟩); clear hK K)
          | (refine Sch.tn_chk _ _ _ rfl rfl rfl rfl rfl ?_; simp only [Act.put, List.setIfInBounds_toArray, List.set_cons_zero, List.set_cons_succ]))
        refine Sch.tn_n ?_
        go_wp2_with fail
        go_meet
        case rel => exact ⟨rfl, HM, HS, HB⟩
      · refine Sch.tn_e rfl rfl (fun K hK => ?_)
        go_wp2_with fail
        have hb := bel_box w10 (.cells #[.int .i64 2, .string ⟨#[98]⟩, .int .i64 5, .string ⟨#[99]⟩] E)
        have HRb : Hid (RowP (w10.alloc (.cells #[.int .i64 2, .string ⟨#[98]⟩, .int .i64 5, .string ⟨#[99]⟩] E)) (some ⟨w10.heap.size, 0, none⟩) [(2, ⟨#[98]⟩), (5, ⟨#[99]⟩)]) := RowP.lit w10 [(2, ⟨#[98]⟩), (5, ⟨#[99]⟩)] _ _ (0, 0) rfl
        replace HI : Hid ((w10.alloc (.cells #[.int .i64 2, .string ⟨#[98]⟩, .int .i64 5, .string ⟨#[99]⟩] E)).cell? ⟨b1, 0, none⟩ = some (.pointer T.ad) ∧ (w10.alloc (.cells #[.int .i64 2, .string ⟨#[98]⟩, .int .i64 5, .string ⟨#[99]⟩] E)).cell? ⟨b2, 0, none⟩ = some (.int .i64 z) ∧ T.In (w10.alloc (.cells #[.int .i64 2, .string ⟨#[98]⟩, .int .i64 5, .string ⟨#[99]⟩] E))) := ⟨keep_cell HI.out.1 hb, keep_cell HI.out.2.1 hb, HI.out.2.2.keep hb⟩
        replace HM := Lib.hid (HM.out.keep hb)
        replace HS := Lib.hid (HS.out.keep hb)
        replace HB := Lib.hid (bel_tr HB.out hb)
        refine hK _ _ HS.out ?_
        clear hK K
        clear hb
        generalize w10.alloc (.cells #[.int .i64 2, .string ⟨#[98]⟩, .int .i64 5, .string ⟨#[99]⟩] E) = w15 at *
        generalize w10.heap.size = gb at *
        have HC := Lib.hid (pairs_it 9 HI.out.1 HI.out.2.1 HI.out.2.2 HJ.out.1 HJ.out.2.1 HJ.out.2.2.1 HJ.out.2.2.2 (by decide))
        refine Sch.tn_e rfl rfl (fun K hK => ?_)
        go_wp2_with fail
        refine HC.out.mono ?_
        rintro e w16 ⟨v, rfl, ho, hb⟩
        obtain ⟨av, cv, rfl, hr, -, -, -⟩ := ho.row
        have HRa : Hid (RowP w16 av [(2, ⟨#[98]⟩), (5, ⟨#[99]⟩)]) := hr
        replace HRb := Lib.hid (HRb.out.keep hb)
        replace HM := Lib.hid (HM.out.keep hb)
        replace HS := Lib.hid (HS.out.keep hb)
        replace HB := Lib.hid (bel_tr HB.out hb)
        clear hb HC ho hr HI HJ
        refine hK _ _ HS.out ?_
        clear hK K
        have HC := Lib.hid (same_ref [(2, ⟨#[98]⟩), (5, ⟨#[99]⟩)] av (some ⟨gb, 0, none⟩) cv 2 w16 HRa.out HRb.out (by decide))
        refine Sch.tn_e rfl rfl (fun K hK => ?_)
        go_wp2_with fail
        refine HC.out.mono ?_
        rintro e w17 ⟨rfl, hb⟩
        replace HM := Lib.hid (HM.out.keep hb)
        replace HS := Lib.hid (HS.out.keep hb)
        replace HB := Lib.hid (bel_tr HB.out hb)
        clear hb HC HRa HRb
        refine hK _ _ HS.out ?_
        clear hK K
        repeat (first
          | (refine Sch.tn_q rfl rfl rfl (fun K hK => ?_); go_big_quiet_op; (first | refine hK _ ?_ | refine ⟨_, fun _ _ => rfl, hK _ ?_⟩); clear hK K)
          | (refine Sch.tn_chk _ _ _ rfl rfl rfl rfl rfl ?_; simp only [Act.put, List.setIfInBounds_toArray, List.set_cons_zero, List.set_cons_succ]))
        refine Sch.tn_n ?_
        go_wp2_with fail
        go_meet
        case rel => exact ⟨rfl, HM, HS, HB⟩
    · refine Sch.tn_e rfl rfl (fun K hK => ?_)
      go_wp2_with fail
      have hb := bel_box w9 (.cells #[.int .i64 2, .string ⟨#[98]⟩, .int .i64 5, .string ⟨#[99]⟩] E)
      have HRb : Hid (RowP (w9.alloc (.cells #[.int .i64 2, .string ⟨#[98]⟩, .int .i64 5, .string ⟨#[99]⟩] E)) (some ⟨w9.heap.size, 0, none⟩) [(2, ⟨#[98]⟩), (5, ⟨#[99]⟩)]) := RowP.lit w9 [(2, ⟨#[98]⟩), (5, ⟨#[99]⟩)] _ _ (0, 0) rfl
      replace HM := Lib.hid (HM.out.keep hb)
      replace HS := Lib.hid (HS.out.keep hb)
      replace HB := Lib.hid (bel_tr HB.out hb)
      refine hK _ _ HS.out ?_
      clear hK K
      clear hb
      generalize w9.alloc (.cells #[.int .i64 2, .string ⟨#[98]⟩, .int .i64 5, .string ⟨#[99]⟩] E) = w18 at *
      generalize w9.heap.size = gb at *
      have HC := Lib.hid (All_yes g false [(2, ⟨#[98]⟩), (5, ⟨#[99]⟩)] w18 HM.out)
      refine Sch.tn_e rfl rfl (fun K hK => ?_)
      go_wp2_with fail
      refine HC.out.mono ?_
      rintro e w19 ⟨b1, b2, T, z, rfl, c1, c2, hT, hL, hl, hz0, hz1, hb⟩
      have HI : Hid (w19.cell? ⟨b1, 0, none⟩ = some (.pointer T.ad) ∧ w19.cell? ⟨b2, 0, none⟩ = some (.int .i64 z) ∧ T.In w19) := ⟨c1, c2, hT⟩
      have HJ : Hid (T.list.drop z.toNat = [(2, ⟨#[98]⟩), (5, ⟨#[99]⟩)] ∧ T.len ≤ 1000000 ∧ 0 ≤ z ∧ z ≤ 1000000) := ⟨hL, hl, hz0, hz1⟩
      replace HRb := Lib.hid (HRb.out.keep hb)
      replace HM := Lib.hid (HM.out.keep hb)
      replace HS := Lib.hid (HS.out.keep hb)
      replace HB := Lib.hid (bel_tr HB.out hb)
      clear hb HC c1 c2 hT hL hl hz0 hz1
      refine hK _ _ HS.out ?_
      clear hK K
      have HC := Lib.hid (pairs_it 9 HI.out.1 HI.out.2.1 HI.out.2.2 HJ.out.1 HJ.out.2.1 HJ.out.2.2.1 HJ.out.2.2.2 (by decide))
      refine Sch.tn_e rfl rfl (fun K hK => ?_)
      go_wp2_with fail
      refine HC.out.mono ?_
      rintro e w20 ⟨v, rfl, ho, hb⟩
      obtain ⟨av, cv, rfl, hr, -, -, -⟩ := ho.row
      have HRa : Hid (RowP w20 av [(2, ⟨#[98]⟩), (5, ⟨#[99]⟩)]) := hr
      replace HRb := Lib.hid (HRb.out.keep hb)
      replace HM := Lib.hid (HM.out.keep hb)
      replace HS := Lib.hid (HS.out.keep hb)
      replace HB := Lib.hid (bel_tr HB.out hb)
      clear hb HC ho hr HI HJ
      refine hK _ _ HS.out ?_
      clear hK K
      have HC := Lib.hid (same_ref [(2, ⟨#[98]⟩), (5, ⟨#[99]⟩)] av (some ⟨gb, 0, none⟩) cv 2 w20 HRa.out HRb.out (by decide))
      refine Sch.tn_e rfl rfl (fun K hK => ?_)
      go_wp2_with fail
      refine HC.out.mono ?_
      rintro e w21 ⟨rfl, hb⟩
      replace HM := Lib.hid (HM.out.keep hb)
      replace HS := Lib.hid (HS.out.keep hb)
      replace HB := Lib.hid (bel_tr HB.out hb)
      clear hb HC HRa HRb
      refine hK _ _ HS.out ?_
      clear hK K
      repeat (first
        | (refine Sch.tn_q rfl rfl rfl (fun K hK => ?_); go_big_quiet_op; (first | refine hK _ ?_ | refine ⟨_, fun _ _ => rfl, hK _ ?_⟩); clear hK K)
        | (refine Sch.tn_chk _ _ _ rfl rfl rfl rfl rfl ?_; simp only [Act.put, List.setIfInBounds_toArray, List.set_cons_zero, List.set_cons_succ]))
      refine Sch.tn_n ?_
      go_wp2_with fail
      go_meet
      case rel => exact ⟨rfl, HM, HS, HB⟩
  case rest =>
    obtain ⟨rfl, HM, HS, HB⟩ := hcut
    generalize wc = w200 at *
    go_wp2_with fail
    go_cut [103] from 51 to 102 (fun c wx => c = .bool false ∧ Hid (Mp wx g false [(2, ⟨#[98]⟩), (5, ⟨#[99]⟩)]) ∧ Hid (Kb B wx) ∧ Hid (Below w.heap.size w wx))
    case first =>
      have hb0 : Below w200.heap.size w200 w200.drew := (Below.refl _ _).drew
      replace HM := Lib.hid (HM.out.keep hb0)
      replace HS := Lib.hid (HS.out.keep hb0)
      replace HB := Lib.hid (bel_tr HB.out hb0)
      clear hb0
      refine Sch.wp_region_tn (Kb B) (.val 0 (.val 1 (.one 2 (.val 3 (.val 4 (.val 5 (.val 6 (.one 7 (.val 8 (.val 9 (.val 10 (.val 11 (.one 12 (.val 13 (.val 14 (.val 15 (.val 16 (.one 17 (.val 18 (.val 19 (.val 20 (.val 21 (.val 22 (.one 23 (.val 24 (.val 25 (.val 26 (.val 27 (.val 28 (.one 29 (.val 30 (.val 31 (.val 32 (.val 33 (.val 34 (.one 35 (.val 36 (.val 37 (.val 38 (.val 39 (.val 40 (.one 41 (.val 42 (.val 43 (.val 44 (.val 45 (.val 48 (.two 46 (.two 47 (.one 49 (.one 50 (.val 51 (.val 52 .done)))) 49 (.one 47 (.one 50 (.val 51 (.val 52 .done))))) 49 (.one 46 (.one 47 (.one 50 (.val 51 (.val 52 .done))))))))))))))))))))))))))))))))))))))))))))))))))))) (by kernel_rfl) (by kernel_rfl) HS.out ?_
      repeat (first
        | (refine Sch.tn_q rfl rfl rfl (fun K hK => ?_); go_big_quiet_op; (first | refine hK _ ?_ | refine ⟨_, fun _ _ => rfl, hK _ ?_⟩); clear hK K)
        | (refine Sch.tn_chk _ _ _ rfl rfl rfl rfl rfl ?_; simp only [Act.put, List.setIfInBounds_toArray, List.set_cons_zero, List.set_cons_succ])
        | (refine Sch.tn_load _ _ _ _ _ rfl rfl rfl rfl (by first | exact kb2 | exact kb5 | exact kb0) rfl ?_; simp only [Act.put, List.setIfInBounds_toArray, List.set_cons_zero, List.set_cons_succ]))
      generalize w200.drew = w201 at *
      have HC := Lib.hid (at_law (some ⟨g, 0, none⟩) 0 (some (2, ⟨#[98]⟩)) w201 (fun w' hb => at_yes g false [(2, ⟨#[98]⟩), (5, ⟨#[99]⟩)] 0 (by decide) (by decide) w' (HM.out.keep hb)))
      refine Sch.tn_e rfl rfl (fun K hK => ?_)
      go_wp2_with fail
      refine HC.out.mono ?_
      rintro e w202 ⟨rfl, hb⟩
      replace HM := Lib.hid (HM.out.keep hb)
      replace HS := Lib.hid (HS.out.keep hb)
      replace HB := Lib.hid (bel_tr HB.out hb)
      clear hb HC
      refine hK _ _ HS.out ?_
      clear hK K
      repeat (first
        | (refine Sch.tn_q rfl rfl rfl (fun K hK => ?_); go_big_quiet_op; (first | refine hK _ ?_ | refine ⟨_, fun _ _ => rfl, hK _ ?_⟩); clear hK K)
        | (refine Sch.tn_chk _ _ _ rfl rfl rfl rfl rfl ?_; simp only [Act.put, List.setIfInBounds_toArray, List.set_cons_zero, List.set_cons_succ])
        | (refine Sch.tn_load _ _ _ _ _ rfl rfl rfl rfl (by first | exact kb2 | exact kb5 | exact kb0) rfl ?_; simp only [Act.put, List.setIfInBounds_toArray, List.set_cons_zero, List.set_cons_succ]))
      have HC := Lib.hid (at_law (some ⟨g, 0, none⟩) 2 none w202 (fun w' hb => at_yes g false [(2, ⟨#[98]⟩), (5, ⟨#[99]⟩)] 2 (by decide) (by decide) w' (HM.out.keep hb)))
      refine Sch.tn_e rfl rfl (fun K hK => ?_)
      go_wp2_with fail
      refine HC.out.mono ?_
      rintro e w203 ⟨rfl, hb⟩
      replace HM := Lib.hid (HM.out.keep hb)
      replace HS := Lib.hid (HS.out.keep hb)
      replace HB := Lib.hid (bel_tr HB.out hb)
      clear hb HC
      refine hK _ _ HS.out ?_
      clear hK K
      repeat (first
        | (refine Sch.tn_q rfl rfl rfl (fun K hK => ?_); go_big_quiet_op; (first | refine hK _ ?_ | refine ⟨_, fun _ _ => rfl, hK _ ?_⟩); clear hK K)
        | (refine Sch.tn_chk _ _ _ rfl rfl rfl rfl rfl ?_; simp only [Act.put, List.setIfInBounds_toArray, List.set_cons_zero, List.set_cons_succ])
        | (refine Sch.tn_load _ _ _ _ _ rfl rfl rfl rfl (by first | exact kb2 | exact kb5 | exact kb0) rfl ?_; simp only [Act.put, List.setIfInBounds_toArray, List.set_cons_zero, List.set_cons_succ]))
      have HC := Lib.hid (rank_yes g false [(2, ⟨#[98]⟩), (5, ⟨#[99]⟩)] 5 w203 HM.out)
      refine Sch.tn_e rfl rfl (fun K hK => ?_)
      go_wp2_with fail
      refine HC.out.mono ?_
      rintro e w204 ⟨rfl, hb⟩
      replace HM := Lib.hid (HM.out.keep hb)
      replace HS := Lib.hid (HS.out.keep hb)
      replace HB := Lib.hid (bel_tr HB.out hb)
      clear hb HC
      refine hK _ _ HS.out ?_
      clear hK K
      repeat (first
        | (refine Sch.tn_q rfl rfl rfl (fun K hK => ?_); go_big_quiet_op; (first | refine hK _ ?_ | refine ⟨_, fun _ _ => rfl, hK _ ?_⟩); clear hK K)
        | (refine Sch.tn_chk _ _ _ rfl rfl rfl rfl rfl ?_; simp only [Act.put, List.setIfInBounds_toArray, List.set_cons_zero, List.set_cons_succ])
        | (refine Sch.tn_load _ _ _ _ _ rfl rfl rfl rfl (by first | exact kb2 | exact kb5 | exact kb0) rfl ?_; simp only [Act.put, List.setIfInBounds_toArray, List.set_cons_zero, List.set_cons_succ]))
      have HC := Lib.hid (rank_yes g false [(2, ⟨#[98]⟩), (5, ⟨#[99]⟩)] 3 w204 HM.out)
      refine Sch.tn_e rfl rfl (fun K hK => ?_)
      go_wp2_with fail
      refine HC.out.mono ?_
      rintro e w205 ⟨rfl, hb⟩
      replace HM := Lib.hid (HM.out.keep hb)
      replace HS := Lib.hid (HS.out.keep hb)
      replace HB := Lib.hid (bel_tr HB.out hb)
      clear hb HC
      refine hK _ _ HS.out ?_
      clear hK K
      repeat (first
        | (refine Sch.tn_q rfl rfl rfl (fun K hK => ?_); go_big_quiet_op; (first | refine hK _ ?_ | refine ⟨_, fun _ _ => rfl, hK _ ?_⟩); clear hK K)
        | (refine Sch.tn_chk _ _ _ rfl rfl rfl rfl rfl ?_; simp only [Act.put, List.setIfInBounds_toArray, List.set_cons_zero, List.set_cons_succ])
        | (refine Sch.tn_load _ _ _ _ _ rfl rfl rfl rfl (by first | exact kb2 | exact kb5 | exact kb0) rfl ?_; simp only [Act.put, List.setIfInBounds_toArray, List.set_cons_zero, List.set_cons_succ]))
      have HC := Lib.hid (floor_law (some ⟨g, 0, none⟩) 4 (some (2, ⟨#[98]⟩)) w205 (fun w' hb => floor_yes g false [(2, ⟨#[98]⟩), (5, ⟨#[99]⟩)] 4 w' (HM.out.keep hb)))
      refine Sch.tn_e rfl rfl (fun K hK => ?_)
      go_wp2_with fail
      refine HC.out.mono ?_
      rintro e w206 ⟨rfl, hb⟩
      replace HM := Lib.hid (HM.out.keep hb)
      replace HS := Lib.hid (HS.out.keep hb)
      replace HB := Lib.hid (bel_tr HB.out hb)
      clear hb HC
      refine hK _ _ HS.out ?_
      clear hK K
      repeat (first
        | (refine Sch.tn_q rfl rfl rfl (fun K hK => ?_); go_big_quiet_op; (first | refine hK _ ?_ | refine ⟨_, fun _ _ => rfl, hK _ ?_⟩); clear hK K)
        | (refine Sch.tn_chk _ _ _ rfl rfl rfl rfl rfl ?_; simp only [Act.put, List.setIfInBounds_toArray, List.set_cons_zero, List.set_cons_succ])
        | (refine Sch.tn_load _ _ _ _ _ rfl rfl rfl rfl (by first | exact kb2 | exact kb5 | exact kb0) rfl ?_; simp only [Act.put, List.setIfInBounds_toArray, List.set_cons_zero, List.set_cons_succ]))
      have HC := Lib.hid (floor_law (some ⟨g, 0, none⟩) 1 none w206 (fun w' hb => floor_yes g false [(2, ⟨#[98]⟩), (5, ⟨#[99]⟩)] 1 w' (HM.out.keep hb)))
      refine Sch.tn_e rfl rfl (fun K hK => ?_)
      go_wp2_with fail
      refine HC.out.mono ?_
      rintro e w207 ⟨rfl, hb⟩
      replace HM := Lib.hid (HM.out.keep hb)
      replace HS := Lib.hid (HS.out.keep hb)
      replace HB := Lib.hid (bel_tr HB.out hb)
      clear hb HC
      refine hK _ _ HS.out ?_
      clear hK K
      repeat (first
        | (refine Sch.tn_q rfl rfl rfl (fun K hK => ?_); go_big_quiet_op; (first | refine hK _ ?_ | refine ⟨_, fun _ _ => rfl, hK _ ?_⟩); clear hK K)
        | (refine Sch.tn_chk _ _ _ rfl rfl rfl rfl rfl ?_; simp only [Act.put, List.setIfInBounds_toArray, List.set_cons_zero, List.set_cons_succ])
        | (refine Sch.tn_load _ _ _ _ _ rfl rfl rfl rfl (by first | exact kb2 | exact kb5 | exact kb0) rfl ?_; simp only [Act.put, List.setIfInBounds_toArray, List.set_cons_zero, List.set_cons_succ]))
      have HC := Lib.hid (ceil_law (some ⟨g, 0, none⟩) 3 (some (5, ⟨#[99]⟩)) w207 (fun w' hb => ceil_yes g false [(2, ⟨#[98]⟩), (5, ⟨#[99]⟩)] 3 w' (HM.out.keep hb)))
      refine Sch.tn_e rfl rfl (fun K hK => ?_)
      go_wp2_with fail
      refine HC.out.mono ?_
      rintro e w208 ⟨rfl, hb⟩
      replace HM := Lib.hid (HM.out.keep hb)
      replace HS := Lib.hid (HS.out.keep hb)
      replace HB := Lib.hid (bel_tr HB.out hb)
      clear hb HC
      refine hK _ _ HS.out ?_
      clear hK K
      repeat (first
        | (refine Sch.tn_q rfl rfl rfl (fun K hK => ?_); go_big_quiet_op; (first | refine hK _ ?_ | refine ⟨_, fun _ _ => rfl, hK _ ?_⟩); clear hK K)
        | (refine Sch.tn_chk _ _ _ rfl rfl rfl rfl rfl ?_; simp only [Act.put, List.setIfInBounds_toArray, List.set_cons_zero, List.set_cons_succ])
        | (refine Sch.tn_load _ _ _ _ _ rfl rfl rfl rfl (by first | exact kb2 | exact kb5 | exact kb0) rfl ?_; simp only [Act.put, List.setIfInBounds_toArray, List.set_cons_zero, List.set_cons_succ]))
      have HC := Lib.hid (ceil_law (some ⟨g, 0, none⟩) 6 none w208 (fun w' hb => ceil_yes g false [(2, ⟨#[98]⟩), (5, ⟨#[99]⟩)] 6 w' (HM.out.keep hb)))
      refine Sch.tn_e rfl rfl (fun K hK => ?_)
      go_wp2_with fail
      refine HC.out.mono ?_
      rintro e w209 ⟨rfl, hb⟩
      replace HM := Lib.hid (HM.out.keep hb)
      replace HS := Lib.hid (HS.out.keep hb)
      replace HB := Lib.hid (bel_tr HB.out hb)
      clear hb HC
      refine hK _ _ HS.out ?_
      clear hK K
      repeat (first
        | (refine Sch.tn_q rfl rfl rfl (fun K hK => ?_); go_big_quiet_op; (first | refine hK _ ?_ | refine ⟨_, fun _ _ => rfl, hK _ ?_⟩); clear hK K)
        | (refine Sch.tn_chk _ _ _ rfl rfl rfl rfl rfl ?_; simp only [Act.put, List.setIfInBounds_toArray, List.set_cons_zero, List.set_cons_succ])
        | (refine Sch.tn_load _ _ _ _ _ rfl rfl rfl rfl (by first | exact kb2 | exact kb5 | exact kb0) rfl ?_; simp only [Act.put, List.setIfInBounds_toArray, List.set_cons_zero, List.set_cons_succ]))
      refine Sch.tn_two ?_ ?_
      · have HC := Lib.hid (From_yes g false [(2, ⟨#[98]⟩), (5, ⟨#[99]⟩)] 3 w209 HM.out)
        refine Sch.tn_e rfl rfl (fun K hK => ?_)
        go_wp2_with fail
        refine HC.out.mono ?_
        rintro e w210 ⟨b1, b2, T, z, rfl, c1, c2, hT, hL, hl, hz0, hz1, hb⟩
        have HI : Hid (w210.cell? ⟨b1, 0, none⟩ = some (.pointer T.ad) ∧ w210.cell? ⟨b2, 0, none⟩ = some (.int .i64 z) ∧ T.In w210) := ⟨c1, c2, hT⟩
        have HJ : Hid (T.list.drop z.toNat = [(5, ⟨#[99]⟩)] ∧ T.len ≤ 1000000 ∧ 0 ≤ z ∧ z ≤ 1000000) := ⟨hL, hl, hz0, hz1⟩
        replace HM := Lib.hid (HM.out.keep hb)
        replace HS := Lib.hid (HS.out.keep hb)
        replace HB := Lib.hid (bel_tr HB.out hb)
        clear hb HC c1 c2 hT hL hl hz0 hz1
        refine hK _ _ HS.out ?_
        clear hK K
        refine Sch.tn_two ?_ ?_
        · have HC := Lib.hid (pairs_it 9 HI.out.1 HI.out.2.1 HI.out.2.2 HJ.out.1 HJ.out.2.1 HJ.out.2.2.1 HJ.out.2.2.2 (by decide))
          refine Sch.tn_e rfl rfl (fun K hK => ?_)
          go_wp2_with fail
          refine HC.out.mono ?_
          rintro e w211 ⟨v, rfl, ho, hb⟩
          obtain ⟨av, cv, rfl, hr, -, -, -⟩ := ho.row
          have HRa : Hid (RowP w211 av [(5, ⟨#[99]⟩)]) := hr
          replace HM := Lib.hid (HM.out.keep hb)
          replace HS := Lib.hid (HS.out.keep hb)
          replace HB := Lib.hid (bel_tr HB.out hb)
          clear hb HC ho hr HI HJ
          refine hK _ _ HS.out ?_
          clear hK K
          refine Sch.tn_e rfl rfl (fun K hK => ?_)
          go_wp2_with fail
          have hb := bel_box w211 (.cells #[.int .i64 5, .string ⟨#[99]⟩] E)
          have HRb : Hid (RowP (w211.alloc (.cells #[.int .i64 5, .string ⟨#[99]⟩] E)) (some ⟨w211.heap.size, 0, none⟩) [(5, ⟨#[99]⟩)]) := RowP.lit w211 [(5, ⟨#[99]⟩)] _ _ (0, 0) rfl
          replace HRa := Lib.hid (HRa.out.keep hb)
          replace HM := Lib.hid (HM.out.keep hb)
          replace HS := Lib.hid (HS.out.keep hb)
          replace HB := Lib.hid (bel_tr HB.out hb)
          refine hK _ _ HS.out ?_
          clear hK K
          clear hb
          generalize w211.alloc (.cells #[.int .i64 5, .string ⟨#[99]⟩] E) = w212 at *
          generalize w211.heap.size = gb at *
          have HC := Lib.hid (same_ref [(5, ⟨#[99]⟩)] av (some ⟨gb, 0, none⟩) cv 1 w212 HRa.out HRb.out (by decide))
          refine Sch.tn_e rfl rfl (fun K hK => ?_)
          go_wp2_with fail
          refine HC.out.mono ?_
          rintro e w213 ⟨rfl, hb⟩
          replace HM := Lib.hid (HM.out.keep hb)
          replace HS := Lib.hid (HS.out.keep hb)
          replace HB := Lib.hid (bel_tr HB.out hb)
          clear hb HC HRa HRb
          refine hK _ _ HS.out ?_
          clear hK K
          repeat (first
            | (refine Sch.tn_q rfl rfl rfl (fun K hK => ?_); go_big_quiet_op; (first | refine hK _ ?_ | refine ⟨_, fun _ _ => rfl, hK _ ?_⟩); clear hK K)
            | (refine Sch.tn_chk _ _ _ rfl rfl rfl rfl rfl ?_; simp only [Act.put, List.setIfInBounds_toArray, List.set_cons_zero, List.set_cons_succ]))
          refine Sch.tn_n ?_
          go_wp2_with fail
          go_meet
          case rel => exact ⟨rfl, HM, HS, HB⟩
        · refine Sch.tn_e rfl rfl (fun K hK => ?_)
          go_wp2_with fail
          have hb := bel_box w210 (.cells #[.int .i64 5, .string ⟨#[99]⟩] E)
          have HRb : Hid (RowP (w210.alloc (.cells #[.int .i64 5, .string ⟨#[99]⟩] E)) (some ⟨w210.heap.size, 0, none⟩) [(5, ⟨#[99]⟩)]) := RowP.lit w210 [(5, ⟨#[99]⟩)] _ _ (0, 0) rfl
          replace HI : Hid ((w210.alloc (.cells #[.int .i64 5, .string ⟨#[99]⟩] E)).cell? ⟨b1, 0, none⟩ = some (.pointer T.ad) ∧ (w210.alloc (.cells #[.int .i64 5, .string ⟨#[99]⟩] E)).cell? ⟨b2, 0, none⟩ = some (.int .i64 z) ∧ T.In (w210.alloc (.cells #[.int .i64 5, .string ⟨#[99]⟩] E))) := ⟨keep_cell HI.out.1 hb, keep_cell HI.out.2.1 hb, HI.out.2.2.keep hb⟩
          replace HM := Lib.hid (HM.out.keep hb)
          replace HS := Lib.hid (HS.out.keep hb)
          replace HB := Lib.hid (bel_tr HB.out hb)
          refine hK _ _ HS.out ?_
          clear hK K
          clear hb
          generalize w210.alloc (.cells #[.int .i64 5, .string ⟨#[99]⟩] E) = w215 at *
          generalize w210.heap.size = gb at *
          have HC := Lib.hid (pairs_it 9 HI.out.1 HI.out.2.1 HI.out.2.2 HJ.out.1 HJ.out.2.1 HJ.out.2.2.1 HJ.out.2.2.2 (by decide))
          refine Sch.tn_e rfl rfl (fun K hK => ?_)
          go_wp2_with fail
          refine HC.out.mono ?_
          rintro e w216 ⟨v, rfl, ho, hb⟩
          obtain ⟨av, cv, rfl, hr, -, -, -⟩ := ho.row
          have HRa : Hid (RowP w216 av [(5, ⟨#[99]⟩)]) := hr
          replace HRb := Lib.hid (HRb.out.keep hb)
          replace HM := Lib.hid (HM.out.keep hb)
          replace HS := Lib.hid (HS.out.keep hb)
          replace HB := Lib.hid (bel_tr HB.out hb)
          clear hb HC ho hr HI HJ
          refine hK _ _ HS.out ?_
          clear hK K
          have HC := Lib.hid (same_ref [(5, ⟨#[99]⟩)] av (some ⟨gb, 0, none⟩) cv 1 w216 HRa.out HRb.out (by decide))
          refine Sch.tn_e rfl rfl (fun K hK => ?_)
          go_wp2_with fail
          refine HC.out.mono ?_
          rintro e w217 ⟨rfl, hb⟩
          replace HM := Lib.hid (HM.out.keep hb)
          replace HS := Lib.hid (HS.out.keep hb)
          replace HB := Lib.hid (bel_tr HB.out hb)
          clear hb HC HRa HRb
          refine hK _ _ HS.out ?_
          clear hK K
          repeat (first
            | (refine Sch.tn_q rfl rfl rfl (fun K hK => ?_); go_big_quiet_op; (first | refine hK _ ?_ | refine ⟨_, fun _ _ => rfl, hK _ ?_⟩); clear hK K)
            | (refine Sch.tn_chk _ _ _ rfl rfl rfl rfl rfl ?_; simp only [Act.put, List.setIfInBounds_toArray, List.set_cons_zero, List.set_cons_succ]))
          refine Sch.tn_n ?_
          go_wp2_with fail
          go_meet
          case rel => exact ⟨rfl, HM, HS, HB⟩
      · refine Sch.tn_e rfl rfl (fun K hK => ?_)
        go_wp2_with fail
        have hb := bel_box w209 (.cells #[.int .i64 5, .string ⟨#[99]⟩] E)
        have HRb : Hid (RowP (w209.alloc (.cells #[.int .i64 5, .string ⟨#[99]⟩] E)) (some ⟨w209.heap.size, 0, none⟩) [(5, ⟨#[99]⟩)]) := RowP.lit w209 [(5, ⟨#[99]⟩)] _ _ (0, 0) rfl
        replace HM := Lib.hid (HM.out.keep hb)
        replace HS := Lib.hid (HS.out.keep hb)
        replace HB := Lib.hid (bel_tr HB.out hb)
        refine hK _ _ HS.out ?_
        clear hK K
        clear hb
        generalize w209.alloc (.cells #[.int .i64 5, .string ⟨#[99]⟩] E) = w218 at *
        generalize w209.heap.size = gb at *
        have HC := Lib.hid (From_yes g false [(2, ⟨#[98]⟩), (5, ⟨#[99]⟩)] 3 w218 HM.out)
        refine Sch.tn_e rfl rfl (fun K hK => ?_)
        go_wp2_with fail
        refine HC.out.mono ?_
        rintro e w219 ⟨b1, b2, T, z, rfl, c1, c2, hT, hL, hl, hz0, hz1, hb⟩
        have HI : Hid (w219.cell? ⟨b1, 0, none⟩ = some (.pointer T.ad) ∧ w219.cell? ⟨b2, 0, none⟩ = some (.int .i64 z) ∧ T.In w219) := ⟨c1, c2, hT⟩
        have HJ : Hid (T.list.drop z.toNat = [(5, ⟨#[99]⟩)] ∧ T.len ≤ 1000000 ∧ 0 ≤ z ∧ z ≤ 1000000) := ⟨hL, hl, hz0, hz1⟩
        replace HRb := Lib.hid (HRb.out.keep hb)
        replace HM := Lib.hid (HM.out.keep hb)
        replace HS := Lib.hid (HS.out.keep hb)
        replace HB := Lib.hid (bel_tr HB.out hb)
        clear hb HC c1 c2 hT hL hl hz0 hz1
        refine hK _ _ HS.out ?_
        clear hK K
        have HC := Lib.hid (pairs_it 9 HI.out.1 HI.out.2.1 HI.out.2.2 HJ.out.1 HJ.out.2.1 HJ.out.2.2.1 HJ.out.2.2.2 (by decide))
        refine Sch.tn_e rfl rfl (fun K hK => ?_)
        go_wp2_with fail
        refine HC.out.mono ?_
        rintro e w220 ⟨v, rfl, ho, hb⟩
        obtain ⟨av, cv, rfl, hr, -, -, -⟩ := ho.row
        have HRa : Hid (RowP w220 av [(5, ⟨#[99]⟩)]) := hr
        replace HRb := Lib.hid (HRb.out.keep hb)
        replace HM := Lib.hid (HM.out.keep hb)
        replace HS := Lib.hid (HS.out.keep hb)
        replace HB := Lib.hid (bel_tr HB.out hb)
        clear hb HC ho hr HI HJ
        refine hK _ _ HS.out ?_
        clear hK K
        have HC := Lib.hid (same_ref [(5, ⟨#[99]⟩)] av (some ⟨gb, 0, none⟩) cv 1 w220 HRa.out HRb.out (by decide))
        refine Sch.tn_e rfl rfl (fun K hK => ?_)
        go_wp2_with fail
        refine HC.out.mono ?_
        rintro e w221 ⟨rfl, hb⟩
        replace HM := Lib.hid (HM.out.keep hb)
        replace HS := Lib.hid (HS.out.keep hb)
        replace HB := Lib.hid (bel_tr HB.out hb)
        clear hb HC HRa HRb
        refine hK _ _ HS.out ?_
        clear hK K
        repeat (first
          | (refine Sch.tn_q rfl rfl rfl (fun K hK => ?_); go_big_quiet_op; (first | refine hK _ ?_ | refine ⟨_, fun _ _ => rfl, hK _ ?_⟩); clear hK K)
          | (refine Sch.tn_chk _ _ _ rfl rfl rfl rfl rfl ?_; simp only [Act.put, List.setIfInBounds_toArray, List.set_cons_zero, List.set_cons_succ]))
        refine Sch.tn_n ?_
        go_wp2_with fail
        go_meet
        case rel => exact ⟨rfl, HM, HS, HB⟩
    case rest =>
      obtain ⟨rfl, HM, HS, HB⟩ := hcut
      generalize wc = w400 at *
      have HD1 := Lib.hid (delete_yes g false [(2, ⟨#[98]⟩), (5, ⟨#[99]⟩)] 2 w400 HM.out)
      rw [show (getR false [(2, ⟨#[98]⟩), (5, ⟨#[99]⟩)] 2).2 = true from rfl, show delR [(2, ⟨#[98]⟩), (5, ⟨#[99]⟩)] 2 = [(5, ⟨#[99]⟩)] from rfl] at HD1
      clear HS HGB HM
      go_wp2_with fail
      refine HD1.out.mono ?_
      rintro e w401 ⟨rfl, hm, hg⟩
      replace HB := Lib.hid (below_gb HB.out hg HB.out.size HG.out.1)
      have HD2 := Lib.hid (delete_yes g false [(5, ⟨#[99]⟩)] 2 w401 hm)
      rw [show (getR false [(5, ⟨#[99]⟩)] 2).2 = false from rfl, show delR [(5, ⟨#[99]⟩)] 2 = [(5, ⟨#[99]⟩)] from rfl] at HD2
      clear hm hg HD1
      go_wp2_with fail
      refine HD2.out.mono ?_
      rintro e w402 ⟨rfl, hm, hg⟩
      replace HB := Lib.hid (below_gb HB.out hg HB.out.size HG.out.1)
      have HLn := Lib.hid (len_yes g false [(5, ⟨#[99]⟩)] w402 hm)
      clear hm hg HD2
      go_wp2_with fail
      refine HLn.out.mono ?_
      rintro e w403 ⟨rfl, hb⟩
      replace HB := Lib.hid (bel_tr HB.out hb)
      have HNn := Lib.hid (new_no w403)
      clear hb HLn
      go_wp2_with fail
      refine HNn.out.mono ?_
      rintro e w404 ⟨rfl, rfl⟩
      go_wp2_with fail
      go_ret
      exact ⟨rfl, HB.out⟩
end Go.Proofs.Ytmmcnpcijeahcaa.J
