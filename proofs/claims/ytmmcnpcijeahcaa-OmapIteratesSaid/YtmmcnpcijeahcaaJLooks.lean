/-
  The law's looks.
-/
import Derived.Test.YtmmcnpcijeahcaaJRef5
namespace Go.Proofs.Ytmmcnpcijeahcaa.J
set_option linter.unusedVariables false
open Go.RowKit V Go.Shelf
attribute [local irreducible] Sch.heldN Sch.stepV Sch.stepE

/-- A box of a map, and two boxes of pairs. -/
def Lk (w : World) (B : Nat) (d : Bool) (a : Option Addr) (n c b1 : Nat) (x : Pr) (b2 : Nat) (y : Pr) : Prop := Rb w B d a n c ∧ Bp w b1 x ∧ Bp w b2 y
theorem Lk.keep {w w' : World} {B n c b1 b2 : Nat} {d : Bool} {a : Option Addr} {x y : Pr} (h : Lk w B d a n c b1 x b2 y) (hb : Below w.heap.size w w') : Lk w' B d a n c b1 x b2 y := ⟨h.1.keep hb, h.2.1.keep hb, h.2.2.keep hb⟩

set_option maxRecDepth 100000 in
set_option maxHeartbeats 4000000 in
theorem looks_law (g : Nat) (d : Bool) (L : List Pr) (a : Option Addr) (c : Nat) (k : Int) (w : World) (h : Mp w g d L) (hx : RowP w a L) (hl : L.length ≤ 100) (hc : L.length ≤ c) (hn : a = none → c = 0) (hk1 : -4611686018427387904 ≤ k) (hk2 : k ≤ 4611686018427387904) :
    Calls Try.prog 18 #[.pointer (some ⟨g, 0, none⟩), mv d a L.length c, .int .i64 k] w fun e w' => e = .returned (.bool true) ∧ Below w.heap.size w w' := by
  have HX := Lib.hid hx
  have HSr := Lib.hid h.srt
  have HCc := Lib.hid hc
  have HNn := Lib.hid hn
  have hb := bel_box w (.cells #[.bool d, .slice a L.length c] 29)
  have HM := Lib.hid (h.keep hb)
  have HR : Hid (Rb (w.alloc (.cells #[.bool d, .slice a L.length c] 29)) w.heap.size d a L.length c) := ⟨by go_simp, by go_simp⟩
  have HB := Lib.hid hb
  have hli : (L.length : Int) ≤ 100 := by omega
  have hll : ((L.length : Int) != (L.length : Int)) = false := by simp
  clear hx h hb hc hn
  go_enter Try.func18, Try.ntmps18
  go_wp2_with fail
  generalize w.alloc (.cells #[.bool d, .slice a L.length c] 29) = w1 at *
  have hb0 : Below w1.heap.size w1 w1.drew := (Below.refl _ _).drew
  replace HM := Lib.hid (HM.out.keep hb0)
  replace HR := Lib.hid (HR.out.keep hb0)
  replace HB := Lib.hid (bel_tr HB.out hb0)
  clear hb0
  have A1 := Lib.hid (fun w' (h : Rb w' w.heap.size d a L.length c) => load_row (w := w') h.2)
  refine Sch.wp_region_tn (fun w' => Rb w' w.heap.size d a L.length c) (.val 0 (.val 2 (.val 3 (.val 4 (.one 1 (.val 5 (.val 6 (.val 7 (.val 10 (.val 11 (.one 8 (.one 9 (.one 12 (.val 13 (.val 14 .done))))))))))))))) (by kernel_rfl) (by kernel_rfl) HR.out ?_
  repeat (first
    | (refine Sch.tn_q rfl rfl rfl (fun K hK => ?_); go_big_quiet_op; (first | refine hK _ ?_ | refine ⟨_, fun _ _ => rfl, hK _ ?_⟩); clear hK K)
    | (refine Sch.tn_chk _ _ _ rfl rfl rfl rfl rfl ?_; simp only [Act.put, List.setIfInBounds_toArray, List.set_cons_zero, List.set_cons_succ])
    | (refine Sch.tn_load _ _ _ _ _ rfl rfl rfl rfl (by first | exact A1.out) rfl ?_; simp only [Act.put, List.setIfInBounds_toArray, List.set_cons_zero, List.set_cons_succ]))
  generalize w1.drew = w2 at *
  have HC := Lib.hid (len_yes g d L w2 HM.out)
  refine Sch.tn_e rfl rfl (fun K hK => ?_)
  go_wp2_with fail
  refine HC.out.mono ?_
  rintro e w3 ⟨rfl, hb⟩
  replace HM := Lib.hid (HM.out.keep hb)
  replace HR := Lib.hid (HR.out.keep hb)
  replace HB := Lib.hid (bel_tr HB.out hb)
  clear hb HC
  refine hK _ _ HR.out ?_
  clear hK K
  repeat (first
    | (refine Sch.tn_q rfl rfl rfl (fun K hK => ?_); go_big_quiet_op; (first | refine hK _ ?_ | refine ⟨_, fun _ _ => rfl, hK _ ?_⟩); clear hK K)
    | (refine Sch.tn_chk _ _ _ rfl rfl rfl rfl rfl ?_; simp only [Act.put, List.setIfInBounds_toArray, List.set_cons_zero, List.set_cons_succ])
    | (refine Sch.tn_load _ _ _ _ _ rfl rfl rfl rfl (by first | exact A1.out) rfl ?_; simp only [Act.put, List.setIfInBounds_toArray, List.set_cons_zero, List.set_cons_succ]))
  have HC := Lib.hid (All_yes g d L w3 HM.out)
  refine Sch.tn_e rfl rfl (fun K hK => ?_)
  go_wp2_with fail
  refine HC.out.mono ?_
  rintro e w4 ⟨b1, b2, T, z, rfl, c1, c2, hT, hL, hlz, hz0, hz1, hb⟩
  have HP := Lib.hid (pairs_it 100 c1 c2 hT hL hlz hz0 hz1 (by decide))
  replace HM := Lib.hid (HM.out.keep hb)
  replace HR := Lib.hid (HR.out.keep hb)
  replace HB := Lib.hid (bel_tr HB.out hb)
  clear c1 c2 hT hL hlz hz0 hz1 hb HC
  refine hK _ _ HR.out ?_
  clear hK K
  refine Sch.tn_e rfl rfl (fun K hK => ?_)
  go_wp2_with fail
  refine HP.out.mono ?_
  rintro e w5 ⟨v, rfl, ho, hb⟩
  rw [show L.take ((100 : Int).toNat) = L from List.take_of_length_le (by simp; omega)] at ho
  obtain ⟨av, cv, rfl, -⟩ := ho.row
  replace HM := Lib.hid (HM.out.keep hb)
  replace HR := Lib.hid (HR.out.keep hb)
  replace HB := Lib.hid (bel_tr HB.out hb)
  have HSa := Lib.hid (same_ref L av a cv c w5 ho.r.1 (HX.out.keepB HB.out (Nat.le_refl _)) (by omega))
  clear ho hb HP
  refine hK _ _ HR.out ?_
  clear hK K
  refine Sch.tn_e rfl rfl (fun K hK => ?_)
  go_wp2_with fail
  refine HSa.out.mono ?_
  rintro e w6 ⟨rfl, hb⟩
  replace HM := Lib.hid (HM.out.keep hb)
  replace HR := Lib.hid (HR.out.keep hb)
  replace HB := Lib.hid (bel_tr HB.out hb)
  clear hb HSa
  refine hK _ _ HR.out ?_
  clear hK K
  repeat (first
    | (refine Sch.tn_q rfl rfl rfl (fun K hK => ?_); go_big_quiet_op; (first | refine hK _ ?_ | refine ⟨_, fun _ _ => rfl, hK _ ?_⟩); clear hK K)
    | (refine Sch.tn_chk _ _ _ rfl rfl rfl rfl rfl ?_; simp only [Act.put, List.setIfInBounds_toArray, List.set_cons_zero, List.set_cons_succ]))
  refine Sch.tn_n ?_
  go_wp2_with fail
  go_loopw [7] (fun j wr => ∃ z : Int, -1 ≤ z ∧ z ≤ (L.length : Int) + 1 ∧ j = .int .i64 z ∧ Hid (Mp wr g d L) ∧ Hid (Rb wr w.heap.size d a L.length c) ∧ Hid (Below w.heap.size w wr)) (fun j _ => ((L.length : Int) + 1 - intOf j).toNat)
  case atStart => exact ⟨-1, by omega, by omega, rfl, HM, HR, HB⟩
  case round =>
    clear HM HR HB
    obtain ⟨z, hz0, hz1, rfl, HM, HR, HB⟩ := hrel
    by_cases hlt : z ≤ (L.length : Int)
    · have HC := Lib.hid (at_ref d L a c z wr (HX.out.keepB HB.out (Nat.le_refl _)) (by omega))
      have HL := Lib.hid (fun w' (h : Mp w' g d L) => at_law (some ⟨g, 0, none⟩) z (atL L z) w' (fun w'' hb => at_yes g d L z (by omega) (by omega) w'' (h.keep hb)))
      generalize atL L z = F at *
      generalize pk F = p at *
      generalize F.isSome = bb at *
      obtain ⟨p0, p1⟩ := p
      have k0 := HR.out.1
      have k1 := HR.out.2
      have hwz : IntKind.i64.wrap (z + 1) = z + 1 := by simp [IntKind.wrap, IntKind.bits, IntKind.signed]; omega
      go_wp2_with fail
      refine HC.out.mono ?_
      rintro e w7 ⟨rfl, hb⟩
      replace HM := Lib.hid (HM.out.keep hb)
      replace HR := Lib.hid (HR.out.keep hb)
      replace HB := Lib.hid (bel_tr HB.out hb)
      clear hb HC k0 k1
      have hb := bel_box w7 (.cells #[.int .i64 p0, .string p1] E)
      replace HM := Lib.hid (HM.out.keep hb)
      replace HR := Lib.hid (HR.out.keep hb)
      replace HB := Lib.hid (bel_tr HB.out hb)
      clear hb
      go_wp2_with fail
      refine (HL.out _ HM.out).mono ?_
      rintro e w8 ⟨rfl, hb⟩
      replace HM := Lib.hid (HM.out.keep hb)
      replace HR := Lib.hid (HR.out.keep hb)
      replace HB := Lib.hid (bel_tr HB.out hb)
      clear hb HL
      go_wp2_with fail
      go_roundw
      case rel => exact ⟨z + 1, by omega, by omega, by go_num, HM, HR, HB⟩
      case measure => simp [intOf]; omega
    · have hwl : ¬ z ≤ (L.length : Int) := hlt
      have k0 := HR.out.1
      have k1 := HR.out.2
      go_wp2_with fail
      clear k0 k1
      clear hz0 hz1 hlt hwl
      go_loopw [10] (fun j wr => ∃ y : Int, -1 ≤ y ∧ y ≤ 2 ∧ j = .int .i64 y ∧ Hid (Mp wr g d L) ∧ Hid (Rb wr w.heap.size d a L.length c) ∧ Hid (Below w.heap.size w wr)) (fun j _ => (2 - intOf j).toNat)
      case atStart => exact ⟨-1, by omega, by omega, rfl, HM, HR, HB⟩
      case round =>
        rename_i wr3 _ _ _
        clear HM HR HB
        obtain ⟨y, hy0, hy1, rfl, HM, HR, HB⟩ := hrel
        by_cases hlt : y ≤ 1
        · have hwy : IntKind.i64.wrap (y + 1) = y + 1 := by simp [IntKind.wrap, IntKind.bits, IntKind.signed]; omega
          have hwk : IntKind.i64.wrap (k + y) = k + y := by simp [IntKind.wrap, IntKind.bits, IntKind.signed]; omega
          have HL1 := Lib.hid (fun w' (h : Mp w' g d L) => gets_law (fun w'' => Below w'.heap.size w' w'') (some ⟨g, 0, none⟩) (k + y) (getR d L (k + y)).1 (getR d L (k + y)).2 w' (get_yes g d L (k + y) w' h))
          have HL2 := Lib.hid (fun w' (h : Mp w' g d L) => rank_yes g d L (k + y) w' h)
          have HL3 := Lib.hid (fun w' (h : Mp w' g d L) => floor_law (some ⟨g, 0, none⟩) (k + y) (floorR d L (k + y)) w' (fun w'' hb => floor_yes g d L (k + y) w'' (h.keep hb)))
          have HL4 := Lib.hid (fun w' (h : Mp w' g d L) => ceil_law (some ⟨g, 0, none⟩) (k + y) (atL L (rank d L (k + y) : Nat)) w' (fun w'' hb => ceil_yes g d L (k + y) w'' (h.keep hb)))
          have HL5 := Lib.hid (fun w' (h : Mp w' g d L) => From_yes g d L (k + y) w' h)
          have HF1 := Lib.hid (fun w' (h : RowP w' a L) => get_ref d L a c (k + y) w' h (by omega))
          have HF2 := Lib.hid (fun w' (h : RowP w' a L) => rank_ref d L a c (k + y) w' h (by omega))
          have HF3 := Lib.hid (fun w' (h : RowP w' a L) => floor_ref d L a c (k + y) w' h (by omega) HSr.out)
          have HF4 := Lib.hid (fun w' (h : RowP w' a L) => ceil_ref d L a c (k + y) w' h (by omega))
          have HF5 := Lib.hid (fun w' (h : RowP w' a L) => from_ref d L a c (k + y) w' h (by omega) HCc.out HNn.out)
          have HDl : Hid ((L.drop (rank d L (k + y))).length ≤ 100) := by show _ ≤ _; rw [List.length_drop]; omega
          generalize getR d L (k + y) = G at *
          generalize floorR d L (k + y) = F at *
          generalize L.drop (rank d L (k + y)) = S at *
          generalize atL L (rank d L (k + y) : Nat) = C at *
          generalize rank d L (k + y) = r at *
          obtain ⟨gv, gb⟩ := G
          generalize pk F = p at *
          generalize F.isSome = fb at *
          generalize pk C = q at *
          generalize C.isSome = cb at *
          obtain ⟨p0, p1⟩ := p
          obtain ⟨q0, q1⟩ := q
          simp only at HL1 HF1
          have hrr : ((r : Int) != (r : Int)) = false := by simp
          have k0 := HR.out.1
          have k1 := HR.out.2
          go_wp2_with fail
          refine (HF1.out _ (HX.out.keepB HB.out (Nat.le_refl _))).mono ?_
          rintro e w7 ⟨rfl, hb⟩
          replace HM := Lib.hid (HM.out.keep hb)
          replace HR := Lib.hid (HR.out.keep hb)
          replace HB := Lib.hid (bel_tr HB.out hb)
          clear hb k0 k1
          have k0 := HR.out.1
          have k1 := HR.out.2
          go_wp2_with fail
          refine (HF3.out _ (HX.out.keepB HB.out (Nat.le_refl _))).mono ?_
          rintro e w8 ⟨rfl, hb⟩
          replace HM := Lib.hid (HM.out.keep hb)
          replace HR := Lib.hid (HR.out.keep hb)
          replace HB := Lib.hid (bel_tr HB.out hb)
          clear hb k0 k1
          have hb := bel_box w8 (.cells #[.int .i64 p0, .string p1] E)
          have HP1 : Hid (Bp (w8.alloc (.cells #[.int .i64 p0, .string p1] E)) w8.heap.size (p0, p1)) := ⟨by go_simp, by go_simp⟩
          replace HM := Lib.hid (HM.out.keep hb)
          replace HR := Lib.hid (HR.out.keep hb)
          replace HB := Lib.hid (bel_tr HB.out hb)
          clear hb
          have k0 := HR.out.1
          have k1 := HR.out.2
          go_wp2_with fail
          refine (HF4.out _ (HX.out.keepB HB.out (Nat.le_refl _))).mono ?_
          rintro e w9 ⟨rfl, hb⟩
          replace HP1 := Lib.hid (HP1.out.keep hb)
          replace HM := Lib.hid (HM.out.keep hb)
          replace HR := Lib.hid (HR.out.keep hb)
          replace HB := Lib.hid (bel_tr HB.out hb)
          clear hb k0 k1
          have hb := bel_box w9 (.cells #[.int .i64 q0, .string q1] E)
          have HP2 : Hid (Bp (w9.alloc (.cells #[.int .i64 q0, .string q1] E)) w9.heap.size (q0, q1)) := ⟨by go_simp, by go_simp⟩
          replace HP1 := Lib.hid (HP1.out.keep hb)
          replace HM := Lib.hid (HM.out.keep hb)
          replace HR := Lib.hid (HR.out.keep hb)
          replace HB := Lib.hid (bel_tr HB.out hb)
          clear hb
          go_wp2_with fail
          generalize w8.heap.size = x1 at *
          generalize w9.alloc (.cells #[.int .i64 q0, .string q1] E) = w10 at *
          generalize w9.heap.size = x2 at *
          have HS : Hid (Lk w10 w.heap.size d a L.length c x1 (p0, p1) x2 (q0, q1)) := ⟨HR.out, HP1.out, HP2.out⟩
          clear HR HP1 HP2
          have hb0 : Below w10.heap.size w10 w10.drew := (Below.refl _ _).drew
          replace HM := Lib.hid (HM.out.keep hb0)
          replace HS := Lib.hid (HS.out.keep hb0)
          replace HB := Lib.hid (bel_tr HB.out hb0)
          clear hb0
          have B1 := Lib.hid (fun w' (h : Lk w' w.heap.size d a L.length c x1 (p0, p1) x2 (q0, q1)) => load_map (w := w') h.1)
          have B2 := Lib.hid (fun w' (h : Lk w' w.heap.size d a L.length c x1 (p0, p1) x2 (q0, q1)) => load_pair (w := w') h.2.1)
          have B3 := Lib.hid (fun w' (h : Lk w' w.heap.size d a L.length c x1 (p0, p1) x2 (q0, q1)) => load_pair (w := w') h.2.2)
          refine Sch.wp_region_tn (fun w' => Lk w' w.heap.size d a L.length c x1 (p0, p1) x2 (q0, q1)) (.val 0 (.val 1 (.val 2 (.val 3 (.val 4 (.val 5 (.one 6 (.val 7 (.val 8 (.val 9 (.val 10 (.val 11 (.val 12 (.val 14 (.val 15 (.val 16 (.val 17 (.one 13 (.one 18 (.val 19 (.val 20 (.val 21 (.val 22 (.val 23 (.val 24 (.val 25 (.val 26 (.val 27 (.one 28 (.val 29 (.val 30 (.val 31 (.val 32 (.val 33 (.val 34 (.val 35 (.val 36 (.val 37 (.one 38 (.val 39 (.val 40 (.val 41 (.val 42 (.val 43 (.val 44 (.val 45 (.val 48 (.val 49 (.val 50 (.val 51 (.one 46 (.one 47 (.one 52 (.one 53 (.val 54 (.val 55 .done)))))))))))))))))))))))))))))))))))))))))))))))))))))))) (by kernel_rfl) (by kernel_rfl) HS.out ?_
          repeat (first
            | (refine Sch.tn_q rfl rfl rfl (fun K hK => ?_); go_big_quiet_op; (first | refine hK _ ?_ | refine ⟨_, fun _ _ => rfl, hK _ ?_⟩); clear hK K)
            | (refine Sch.tn_chk _ _ _ rfl rfl rfl rfl rfl ?_; simp only [Act.put, List.setIfInBounds_toArray, List.set_cons_zero, List.set_cons_succ])
            | (refine Sch.tn_load _ _ _ _ _ rfl rfl rfl rfl (by first | exact B1.out | exact B2.out | exact B3.out) rfl ?_; simp only [Act.put, List.setIfInBounds_toArray, List.set_cons_zero, List.set_cons_succ]))
          generalize w10.drew = w11 at *
          refine Sch.tn_e rfl rfl (fun K hK => ?_)
          go_wp2_with fail
          refine (HL1.out _ HM.out).mono ?_
          rintro e w12 ⟨rfl, hb⟩
          replace HM := Lib.hid (HM.out.keep hb)
          replace HS := Lib.hid (HS.out.keep hb)
          replace HB := Lib.hid (bel_tr HB.out hb)
          clear hb HL1
          refine hK _ _ HS.out ?_
          clear hK K
          repeat (first
            | (refine Sch.tn_q rfl rfl rfl (fun K hK => ?_); go_big_quiet_op; (first | refine hK _ ?_ | refine ⟨_, fun _ _ => rfl, hK _ ?_⟩); clear hK K)
            | (refine Sch.tn_chk _ _ _ rfl rfl rfl rfl rfl ?_; simp only [Act.put, List.setIfInBounds_toArray, List.set_cons_zero, List.set_cons_succ])
            | (refine Sch.tn_load _ _ _ _ _ rfl rfl rfl rfl (by first | exact B1.out | exact B2.out | exact B3.out) rfl ?_; simp only [Act.put, List.setIfInBounds_toArray, List.set_cons_zero, List.set_cons_succ]))
          refine Sch.tn_e rfl rfl (fun K hK => ?_)
          go_wp2_with fail
          refine (HL2.out _ HM.out).mono ?_
          rintro e w13 ⟨rfl, hb⟩
          replace HM := Lib.hid (HM.out.keep hb)
          replace HS := Lib.hid (HS.out.keep hb)
          replace HB := Lib.hid (bel_tr HB.out hb)
          clear hb HL2
          refine hK _ _ HS.out ?_
          clear hK K
          refine Sch.tn_e rfl rfl (fun K hK => ?_)
          go_wp2_with fail
          refine (HF2.out _ (HX.out.keepB HB.out (Nat.le_refl _))).mono ?_
          rintro e w14 ⟨rfl, hb⟩
          replace HM := Lib.hid (HM.out.keep hb)
          replace HS := Lib.hid (HS.out.keep hb)
          replace HB := Lib.hid (bel_tr HB.out hb)
          clear hb HF2
          refine hK _ _ HS.out ?_
          clear hK K
          repeat (first
            | (refine Sch.tn_q rfl rfl rfl (fun K hK => ?_); go_big_quiet_op; (first | refine hK _ ?_ | refine ⟨_, fun _ _ => rfl, hK _ ?_⟩); clear hK K)
            | (refine Sch.tn_chk _ _ _ rfl rfl rfl rfl rfl ?_; simp only [Act.put, List.setIfInBounds_toArray, List.set_cons_zero, List.set_cons_succ])
            | (refine Sch.tn_load _ _ _ _ _ rfl rfl rfl rfl (by first | exact B1.out | exact B2.out | exact B3.out) rfl ?_; simp only [Act.put, List.setIfInBounds_toArray, List.set_cons_zero, List.set_cons_succ]))
          refine Sch.tn_e rfl rfl (fun K hK => ?_)
          go_wp2_with fail
          refine (HL3.out _ HM.out).mono ?_
          rintro e w15 ⟨rfl, hb⟩
          replace HM := Lib.hid (HM.out.keep hb)
          replace HS := Lib.hid (HS.out.keep hb)
          replace HB := Lib.hid (bel_tr HB.out hb)
          clear hb HL3
          refine hK _ _ HS.out ?_
          clear hK K
          repeat (first
            | (refine Sch.tn_q rfl rfl rfl (fun K hK => ?_); go_big_quiet_op; (first | refine hK _ ?_ | refine ⟨_, fun _ _ => rfl, hK _ ?_⟩); clear hK K)
            | (refine Sch.tn_chk _ _ _ rfl rfl rfl rfl rfl ?_; simp only [Act.put, List.setIfInBounds_toArray, List.set_cons_zero, List.set_cons_succ])
            | (refine Sch.tn_load _ _ _ _ _ rfl rfl rfl rfl (by first | exact B1.out | exact B2.out | exact B3.out) rfl ?_; simp only [Act.put, List.setIfInBounds_toArray, List.set_cons_zero, List.set_cons_succ]))
          refine Sch.tn_e rfl rfl (fun K hK => ?_)
          go_wp2_with fail
          refine (HL4.out _ HM.out).mono ?_
          rintro e w16 ⟨rfl, hb⟩
          replace HM := Lib.hid (HM.out.keep hb)
          replace HS := Lib.hid (HS.out.keep hb)
          replace HB := Lib.hid (bel_tr HB.out hb)
          clear hb HL4
          refine hK _ _ HS.out ?_
          clear hK K
          repeat (first
            | (refine Sch.tn_q rfl rfl rfl (fun K hK => ?_); go_big_quiet_op; (first | refine hK _ ?_ | refine ⟨_, fun _ _ => rfl, hK _ ?_⟩); clear hK K)
            | (refine Sch.tn_chk _ _ _ rfl rfl rfl rfl rfl ?_; simp only [Act.put, List.setIfInBounds_toArray, List.set_cons_zero, List.set_cons_succ])
            | (refine Sch.tn_load _ _ _ _ _ rfl rfl rfl rfl (by first | exact B1.out | exact B2.out | exact B3.out) rfl ?_; simp only [Act.put, List.setIfInBounds_toArray, List.set_cons_zero, List.set_cons_succ]))
          refine Sch.tn_e rfl rfl (fun K hK => ?_)
          go_wp2_with fail
          refine (HL5.out _ HM.out).mono ?_
          rintro e w17 ⟨y1, y2, T2, z2, rfl, c1, c2, hT, hL, hlz, hz0, hz1, hb⟩
          have HP := Lib.hid (pairs_it 100 c1 c2 hT hL hlz hz0 hz1 (by decide))
          replace HM := Lib.hid (HM.out.keep hb)
          replace HS := Lib.hid (HS.out.keep hb)
          replace HB := Lib.hid (bel_tr HB.out hb)
          clear c1 c2 hT hL hlz hz0 hz1 hb HL5
          refine hK _ _ HS.out ?_
          clear hK K
          refine Sch.tn_e rfl rfl (fun K hK => ?_)
          go_wp2_with fail
          refine HP.out.mono ?_
          rintro e w18 ⟨v, rfl, ho, hb⟩
          rw [show S.take ((100 : Int).toNat) = S from List.take_of_length_le (by have := HDl.out; simp; omega)] at ho
          obtain ⟨aw, cw, rfl, -⟩ := ho.row
          replace HM := Lib.hid (HM.out.keep hb)
          replace HS := Lib.hid (HS.out.keep hb)
          replace HB := Lib.hid (bel_tr HB.out hb)
          have HRw := Lib.hid ho.r.1
          clear ho hb HP
          refine hK _ _ HS.out ?_
          clear hK K
          refine Sch.tn_e rfl rfl (fun K hK => ?_)
          go_wp2_with fail
          refine (HF5.out _ (HX.out.keepB HB.out (Nat.le_refl _))).mono ?_
          rintro e w19 ⟨a5, c5, rfl, hrow, hb⟩
          replace HRw := Lib.hid (HRw.out.keep hb)
          replace HM := Lib.hid (HM.out.keep hb)
          replace HS := Lib.hid (HS.out.keep hb)
          replace HB := Lib.hid (bel_tr HB.out hb)
          have HSa := Lib.hid (same_ref S aw a5 cw c5 w19 HRw.out hrow (by have := HDl.out; omega))
          clear hrow hb HF5 HRw
          refine hK _ _ HS.out ?_
          clear hK K
          refine Sch.tn_e rfl rfl (fun K hK => ?_)
          go_wp2_with fail
          refine HSa.out.mono ?_
          rintro e w20 ⟨rfl, hb⟩
          replace HM := Lib.hid (HM.out.keep hb)
          replace HS := Lib.hid (HS.out.keep hb)
          replace HB := Lib.hid (bel_tr HB.out hb)
          clear hb HSa
          refine hK _ _ HS.out ?_
          clear hK K
          repeat (first
            | (refine Sch.tn_q rfl rfl rfl (fun K hK => ?_); go_big_quiet_op; (first | refine hK _ ?_ | refine ⟨_, fun _ _ => rfl, hK _ ?_⟩); clear hK K)
            | (refine Sch.tn_chk _ _ _ rfl rfl rfl rfl rfl ?_; simp only [Act.put, List.setIfInBounds_toArray, List.set_cons_zero, List.set_cons_succ])
            | (refine Sch.tn_load _ _ _ _ _ rfl rfl rfl rfl (by first | exact B1.out | exact B2.out | exact B3.out) rfl ?_; simp only [Act.put, List.setIfInBounds_toArray, List.set_cons_zero, List.set_cons_succ]))
          refine Sch.tn_n ?_
          go_wp2_with fail
          go_roundw
          case rel => exact ⟨y + 1, by omega, by omega, by go_num, HM, Lib.hid HS.out.1, HB⟩
          case measure => simp [intOf]; omega
        · have hwl : ¬ y ≤ 1 := hlt
          go_wp2_with fail
          go_ret
          exact ⟨rfl, HB.out⟩
end Go.Proofs.Ytmmcnpcijeahcaa.J
