/-
  The law WalkGrows.
-/
import Derived.Test.YteojbekkbgcmnaaGreatMWKnG
import Derived.Test.YteojbekkbgcmnaaGreatWGX
import Derived.Test.YteojbekkbgcmnaaGreatMWRfP
namespace Go.Proofs.YteojbekkbgcmnaaGreat.Un
set_option linter.unusedVariables false
open Go.RowKit V Go.Shelf D Nd Qs Wk
attribute [local irreducible] Sch.heldN Sch.stepV Sch.stepE

/-- The box of the dot, in the worlds behind one. -/
def Ke (w5 : World) (g : Nat) (d : Dt) (w : World) : Prop := Below w5.heap.size w5 w ∧ Bd w g d
theorem Ke.keep {w5 : World} {g : Nat} {d : Dt} {w w' : World} (h : Ke w5 g d w) (hb : Below w.heap.size w w') : Ke w5 g d w' := ⟨bel_tr h.1 hb, h.2.keep hb⟩
theorem Ke.l {w5 : World} {g : Nat} {d : Dt} : ∀ w, Ke w5 g d w → (Instr.loadAt 24 (.pointer (some ⟨g, 0, none⟩))).run Tryz.prog w = .ok (dv d) w := fun w h => load_dotB h.2
/-- A box with a node that may be written. -/
def Zn (w : World) (g : Nat) (n : Nt) : Prop := Nb w g n ∧ ∀ o, w.frozen? ⟨g, o, none⟩ = false
theorem Zn.keep {w w' : World} {g : Nat} {n : Nt} (h : Zn w g n) (hb : Below w.heap.size w w') : Zn w' g n := ⟨h.1.keep hb, fun o => (hb.frozen (p := ⟨g, o, none⟩) h.1.lt).trans (h.2 o)⟩
theorem Zn.new (w : World) (n : Nt) : Zn (w.alloc (.cells (nc n) 43)) w.heap.size n := by
  refine ⟨Nb.new w n, fun o => ?_⟩
  go_simp
theorem Zn.par {w : World} {g : Nat} {n : Nt} (h : Zn w g n) (p : Dt) : Zn ((w.setCell ⟨g, 2, none⟩ (.int .i64 p.1)).setCell ⟨g, 3, none⟩ (.int .i64 p.2)) g (n.1, p, n.2.2) := by
  obtain ⟨⟨h0, h1, h2, h3, h4, h5⟩, hf⟩ := h
  refine ⟨?_, fun o => ?_⟩
  · refine ⟨?_, ?_, ?_, ?_, ?_, ?_⟩ <;> go_simp
  · simp only [World.frozen?_setCell]
    exact hf o
theorem Zn.put {w : World} {g : Nat} (h : Zb w g) (n : Nt) : Zn (Nd.putN w g n) g n := ⟨put_nb h n, fun o => by unfold Nd.putN; simp only [World.frozen?_setCell]; exact h.2 o⟩
theorem below_parG {B : Nat} {a w : World} {g : Nat} (h : Below B a w) (hg : B ≤ g) (u v : Value) : Below B a ((w.setCell ⟨g, 2, none⟩ u).setCell ⟨g, 3, none⟩ v) :=
  (h.setCell (p := ⟨g, 2, none⟩) hg _).setCell (p := ⟨g, 3, none⟩) hg _
set_option maxRecDepth 100000 in
set_option maxHeartbeats 16000000 in
theorem grows_law (l : List Nt) (t : Nat) (d : Dt) (a : Option Addr) (c : Nat) (w : World) (ht : t ≤ 255) (hi : ∀ x ∈ l, i32 x.2.2.2) (hfn : ∀ x ∈ l, fitN x) (hx : RowN w a l) (hna : a = none → c = 0) :
    Calls Tryz.prog 4 #[.slice a l.length c, .int .u8 (t : Int), dv d] w fun e w' => e = .returned (.bool true) ∧ Below w.heap.size w w' := by
  have HKn := Lib.hid (fun w => known_any w)
  have HB := Lib.hid (bel_box w (.cells #[.int .i64 d.1, .int .i64 d.2] 24))
  by_cases hbig : 40 < l.length
  · have hg : (40 : Int) < (l.length : Int) := by omega
    have hgd : decide ((40 : Int) < (l.length : Int)) = true := decide_eq_true hg
    go_enter Tryz.func4, Tryz.ntmps4
    go_wp2_with fail
    refine (HKn.out _).mono ?_
    rintro e w99 ⟨rfl, hb⟩
    replace HB := Lib.hid (bel_tr HB.out hb)
    clear hb HKn
    go_wp2_with fail
    go_ret
    exact ⟨rfl, HB.out⟩
  have hle : l.length ≤ 40 := by omega
  have hng : ¬ (40 : Int) < (l.length : Int) := by omega
  have hngd : decide ((40 : Int) < (l.length : Int)) = false := decide_eq_false hng
  have HD := Lib.hid (bd_new w d)
  have HX := Lib.hid (hx.keep HB.out)
  have HLe := Lib.hid hle
  have HVl := Lib.hid (fun w h => validS_ref l a c w hi h (by omega))
  have HVd := Lib.hid (fun w => valid_ref d w)
  have HFd := Lib.hid (fun w h => find_ref l d a c w h (by omega))
  have HCr := Lib.hid (fun w h => child_ref l d a c w h (by omega))
  have HTm := Lib.hid (fun w h => time_ref l a c w h (by omega))
  have HOp := Lib.hid (fun w h => order_prog l a c w h (by omega))
  have HPp := Lib.hid (fun n w hn h => put_prog l n a c w hfn hn h hna (by omega))
  have HGr : Hid (validS l = true → validR d = true → idxS l d < 0 → childS l d = [] → timeS l ≠ 4611686018427387904 → orderP l = (orderS l, 0) ∧ (orderS l).length ≤ 40 ∧ 0 ≤ timeS l ∧ timeS l ≤ 4611686018427387904 ∧ ∀ k, k ≤ (orderS l).length → putP l (growN l d k) = (setS l (growN l d k), 0) ∧ fitN (growN l d k) ∧ orderP (setS l (growN l d k)) = ((orderS l).take k ++ growN l d k :: (orderS l).drop k, 0) ∧ (setS l (growN l d k)).length ≤ l.length + 1) :=
    fun h1 h2 h3 h4 h5 => ⟨by unfold orderP; rw [if_pos h1], by have := both_len h1; omega, (time_bounds h1).1, (time_bounds h1).2.1, grow_all h1 h2 h3 h4 h5⟩
  have HGd : Hid (∀ k (h : k < (orderS l).length), growN l d (k + 1) = (d, (orderS l)[k].1, timeS l + 1, 110)) := fun k h => by unfold growN; rw [dif_pos ⟨by omega, by omega⟩]; rfl
  have HG0 : Hid (growN l d 0 = (d, (0, 0), timeS l + 1, 110)) := by show _ = _; unfold growN; rw [dif_neg (by omega)]
  clear hbig hi hfn hx hle hna
  generalize validS l = v1 at *
  generalize validR d = v2 at *
  generalize idxS l d = ix at *
  generalize childS l d = C at *
  generalize timeS l = tm at *
  generalize growN l d = gn at *
  generalize orderS l = O at *
  go_enter Tryz.func4, Tryz.ntmps4
  go_wp2_with fail
  generalize w.alloc (.cells #[.int .i64 d.1, .int .i64 d.2] 24) = w1 at *
  refine (HVl.out _ HX.out).mono ?_
  rintro e w21 ⟨rfl, hb⟩
  replace HB := Lib.hid (bel_tr HB.out hb)
  replace HX := Lib.hid (HX.out.keep hb)
  replace HD := Lib.hid (HD.out.keep hb)
  clear hb
  clear HVl
  rcases v1 with _ | _
  · go_wp2_with fail
    refine (HKn.out _).mono ?_
    rintro e w99 ⟨rfl, hb⟩
    replace HB := Lib.hid (bel_tr HB.out hb)
    clear hb HKn
    go_wp2_with fail
    go_ret
    exact ⟨rfl, HB.out⟩
  have c0 := HD.out.c0
  have c1 := HD.out.c1
  go_wp2_with fail
  refine (HVd.out _).mono ?_
  rintro e w22 ⟨rfl, hb⟩
  replace HB := Lib.hid (bel_tr HB.out hb)
  replace HX := Lib.hid (HX.out.keep hb)
  replace HD := Lib.hid (HD.out.keep hb)
  clear hb
  clear HVd c0 c1
  rcases v2 with _ | _
  · go_wp2_with fail
    refine (HKn.out _).mono ?_
    rintro e w99 ⟨rfl, hb⟩
    replace HB := Lib.hid (bel_tr HB.out hb)
    clear hb HKn
    go_wp2_with fail
    go_ret
    exact ⟨rfl, HB.out⟩
  have c0 := HD.out.c0
  have c1 := HD.out.c1
  go_wp2_with fail
  refine (HFd.out _ HX.out).mono ?_
  rintro e w23 ⟨rfl, hb⟩
  replace HB := Lib.hid (bel_tr HB.out hb)
  replace HX := Lib.hid (HX.out.keep hb)
  replace HD := Lib.hid (HD.out.keep hb)
  clear hb
  clear HFd c0 c1
  by_cases hix : 0 ≤ ix
  · have hixd : decide ((0 : Int) ≤ ix) = true := decide_eq_true hix
    go_wp2_with fail
    refine (HKn.out _).mono ?_
    rintro e w99 ⟨rfl, hb⟩
    replace HB := Lib.hid (bel_tr HB.out hb)
    clear hb HKn
    go_wp2_with fail
    go_ret
    exact ⟨rfl, HB.out⟩
  have hixd : decide ((0 : Int) ≤ ix) = false := decide_eq_false hix
  have c0 := HD.out.c0
  have c1 := HD.out.c1
  go_wp2_with fail
  refine (HCr.out _ HX.out).mono ?_
  rintro e w12 ⟨v12, rfl, ho, hb⟩
  obtain ⟨a12, c12, rfl, -⟩ := ON.row ho
  replace HB := Lib.hid (bel_tr HB.out hb)
  replace HX := Lib.hid (HX.out.keep hb)
  replace HD := Lib.hid (HD.out.keep hb)
  clear hb ho c0 c1 HCr
  rcases C with _ | ⟨cc, C⟩
  · rw [List.length_nil]
    go_wp2_with fail
    refine (HTm.out _ HX.out).mono ?_
    rintro e w24 ⟨rfl, hb⟩
    replace HB := Lib.hid (bel_tr HB.out hb)
    replace HX := Lib.hid (HX.out.keep hb)
    replace HD := Lib.hid (HD.out.keep hb)
    clear hb
    by_cases htm : tm = 4611686018427387904
    · have htmd : decide (tm = 4611686018427387904) = true := decide_eq_true htm
      go_wp2_with fail
      refine (HKn.out _).mono ?_
      rintro e w99 ⟨rfl, hb⟩
      replace HB := Lib.hid (bel_tr HB.out hb)
      clear hb HKn
      go_wp2_with fail
      go_ret
      exact ⟨rfl, HB.out⟩
    have htmd : decide (tm = 4611686018427387904) = false := decide_eq_false htm
    obtain ⟨hOp, hOl, ht0, ht1, hG⟩ := HGr.out (by first | rfl | trivial) (by first | rfl | trivial) (by omega) (by first | rfl | trivial) htm
    rw [hOp] at HOp
    have HG := Lib.hid hG
    have HOl := Lib.hid hOl
    clear HGr hOp hG hOl
    go_wp2_with fail
    refine (HOp.out _ HX.out).mono ?_
    rintro e w13 ⟨v13, rfl, ho, hb⟩
    obtain ⟨a13, c13, rfl, hr13, hn13, hl13, -⟩ := ON.row ho
    have HO := Lib.hid hr13
    have HON : Hid (a13 = none → c13 = 0) := fun h => (hn13 h).1
    have HOc := Lib.hid hl13
    replace HB := Lib.hid (bel_tr HB.out hb)
    replace HX := Lib.hid (HX.out.keep hb)
    replace HD := Lib.hid (HD.out.keep hb)
    clear hb ho hr13 hn13 hl13 HOp
    go_wp2_with fail
    have hb := (Below.refl w13.heap.size w13).drew
    replace HB := Lib.hid (bel_tr HB.out hb)
    replace HX := Lib.hid (HX.out.keep hb)
    replace HD := Lib.hid (HD.out.keep hb)
    replace HO := Lib.hid (HO.out.keep hb)
    clear hb
    have HK : Hid (Ke w13.drew w.heap.size d w13.drew) := ⟨Below.refl _ _, HD.out⟩
    refine Sch.wp_region_tn (Ke w13.drew w.heap.size d) (.val 0 (.val 1 (.two 2 (.val 3 (.val 4 (.one 5 (.one 6 .done)))) 5 (.one 2 (.val 3 (.val 4 (.one 6 .done))))))) (by kernel_rfl) (by kernel_rfl) HK.out ?_
    repeat (first
      | (refine Sch.tn_q rfl rfl rfl (fun K hK => ?_); go_big_quiet_op; (first | refine hK _ ?_ | refine ⟨_, fun _ _ => rfl, hK _ ?_⟩); clear hK K)
      | (refine Sch.tn_chk _ _ _ rfl rfl rfl rfl rfl ?_; simp only [Act.put, List.setIfInBounds_toArray, List.set_cons_zero, List.set_cons_succ])
      | (refine Sch.tn_load _ _ _ _ _ rfl rfl rfl rfl (by first | exact Ke.l) rfl ?_; simp only [Act.put, List.setIfInBounds_toArray, List.set_cons_zero, List.set_cons_succ]))
    generalize w13.drew = w14 at *
    have htw : IntKind.i64.wrap (tm + 1) = tm + 1 := by
      simp only [IntKind.wrap, IntKind.bits, IntKind.signed]
      simp
      omega
    obtain ⟨k, hk⟩ : ∃ k, k = t % (O.length + 1) := ⟨_, rfl⟩
    have hkl : k ≤ O.length := by have := Nat.mod_lt t (show 0 < O.length + 1 by omega); omega
    have hol : (O.length : Int) ≤ 40 := by have := HOl.out; omega
    have htm2 : ((t : Int)).tmod ((O.length : Int) + 1) = (k : Int) := by rw [hk]; rfl
    have hmd : ((t : Int)) % ((O.length : Int) + 1) = (k : Int) := by rw [hk]; rfl
    have hcv : IntKind.i64.wrap (t : Int) = t := wrap_nat (by omega)
    have hcv2 : (t : Int) % 256 = t := by omega
    have hr0 : IntKind.i64.wrap (k : Int) = k := wrap_nat (by omega)
    have hne0 : ¬ (O.length : Int) + 1 = 0 := by omega
    have hne1 : decide ((O.length : Int) + 1 = 0) = false := decide_eq_false hne0
    have hneb : ((O.length : Int) + 1 == 0) = false := beq_false_of_ne hne0
    have hkb : (k : Int) ≤ (O.length : Int) := by omega
    have hk0b : (0 : Int) ≤ (k : Int) := by omega
    clear hk
    refine Sch.tn_two ?_ ?_
    · skip
      refine Sch.tn_e rfl rfl (fun K hK => ?_)
      go_wp2_with fail
      refine (HTm.out _ HX.out).mono ?_
      rintro e w25 ⟨rfl, hb⟩
      replace HB := Lib.hid (bel_tr HB.out hb)
      replace HX := Lib.hid (HX.out.keep hb)
      replace HD := Lib.hid (HD.out.keep hb)
      replace HO := Lib.hid (HO.out.keep hb)
      replace HK := Lib.hid (HK.out.keep hb)
      clear hb
      refine hK _ _ HK.out ?_
      clear hK K
      repeat (first
        | (refine Sch.tn_q rfl rfl rfl (fun K hK => ?_); go_big_quiet_op; (first | refine hK _ ?_ | refine ⟨_, fun _ _ => rfl, hK _ ?_⟩); clear hK K)
        | (refine Sch.tn_chk _ _ _ rfl rfl rfl rfl rfl ?_; simp only [Act.put, List.setIfInBounds_toArray, List.set_cons_zero, List.set_cons_succ])
        | (refine Sch.tn_load _ _ _ _ _ rfl rfl rfl rfl (by first | exact Ke.l) rfl ?_; simp only [Act.put, List.setIfInBounds_toArray, List.set_cons_zero, List.set_cons_succ]))
      refine Sch.tn_e rfl rfl (fun K hK => ?_)
      go_wp2_with fail
      refine hK _ _ (HK.out.keep (bel_box w25 _)) ?_
      clear hK K
      refine Sch.tn_e rfl rfl (fun K hK => ?_)
      go_wp2_with fail
      refine hK _ _ (HK.out.keep (bel_box w25 (.cells (nc (d, (0, 0), tm + 1, 110)) 43))) ?_
      clear hK K
      refine Sch.tn_n ?_
      have HZ := Lib.hid (bel_box w25 (.cells (nc (d, (0, 0), tm + 1, 110)) 43))
      have HN := Lib.hid (Zn.new w25 (d, (0, 0), tm + 1, 110))
      obtain ⟨g, hge⟩ : ∃ g, g = w25.heap.size := ⟨_, rfl⟩
      have HGe : Hid (w25.heap.size ≤ g) := by show _ ≤ _; omega
      rw [← hge] at HN ⊢
      clear hge
      generalize w25.alloc (.cells (nc (d, (0, 0), tm + 1, 110)) 43) = w30 at *
      have HZs : Hid (w25.heap.size ≤ g) := HGe.out
      by_cases hk0 : k = 0
      · have hk0i : ¬ (0 : Int) < (k : Int) := by omega
        have hk0d : decide ((0 : Int) < (k : Int)) = false := decide_eq_false hk0i
        have HGk : Hid (gn k = (d, (0, 0), tm + 1, 110)) := by rw [hk0]; exact HG0.out
        clear HGd HG0 HK HD hk0
        obtain ⟨hp1, hp2, hp3, hp4⟩ := HG.out k hkl
        rw [HGk.out] at hp1 hp2 hp3 hp4
        have HPc := Lib.hid (HPp.out (d, (0, 0), tm + 1, 110) _ hp2 (HX.out.keep HZ.out))
        rw [hp1] at HPc
        have HSl : Hid ((setS l (d, (0, 0), tm + 1, 110)).length ≤ 41) := by have := HLe.out; show _ ≤ _; omega
        have HOe := Lib.hid hp3
        clear hp1 hp2 hp3 hp4 HG HGk HPp
        replace HB := Lib.hid (bel_tr HB.out HZ.out)
        replace HO := Lib.hid (HO.out.keep HZ.out)
        generalize setS l (d, (0, 0), tm + 1, 110) = S at *
        obtain ⟨y0, y1, y2, y3, y4, y5⟩ := HN.out.1
        clear HX HZ
        go_wp2_with fail
        refine HPc.out.mono ?_
        rintro e w41 ⟨v41, rfl, ho, hb⟩
        obtain ⟨aS, cS, rfl, hrS, -⟩ := ON.row ho
        have HS := Lib.hid hrS
        replace HB := Lib.hid (bel_tr HB.out hb)
        replace HO := Lib.hid (HO.out.keep hb)
        have HNn := Lib.hid (HN.out.1.keep hb)
        clear ho hb hrS HPc HN y0 y1 y2 y3 y4 y5 
        have hcut := cut_loN a13 O.length c13 k (by have := HOc.out; omega)
        have hcut2 := cut_hiN a13 O.length c13 k (O.length - k) (by omega) HOc.out
        have HN3 : Hid (offN a13 c13 k = none → c13 - k = 0) := fun h => by have := HON.out (offN_none h); omega
        go_wp2_with fail
        have hb := (Below.refl w41.heap.size w41).drew
        replace HB := Lib.hid (bel_tr HB.out hb)
        replace HO := Lib.hid (HO.out.keep hb)
        replace HNn := Lib.hid (HNn.out.keep hb)
        replace HS := Lib.hid (HS.out.keep hb)
        have HRP := Lib.hid (HO.out.take k)
        have HRR := Lib.hid (offN_row HO.out c13 k HOc.out hkl)
        have HLt : Hid ((O.take k).length = k) := by show _ = _; rw [List.length_take]; omega
        have HLd : Hid ((O.drop k).length = O.length - k) := by show _ = _; rw [List.length_drop]
        have HLP : Hid ((O.take k).length + (O.drop k).length ≤ 100) := by have h1 := HLt.out; have h2 := HLd.out; show _ ≤ _; omega
        have HOrd := Lib.hid (fun aW cW w h h2 => ordered_true S aS cS ((O.take k ++ [(d, (0, 0), tm + 1, 110)]) ++ O.drop k) 0 aW cW w h (by have := HSl.out; omega) (by rw [HOe.out]; simp) h2 (by have := HLP.out; simp only [List.length_append, List.length_cons, List.length_nil]; omega))
        clear hb HOe HO
        generalize offN a13 c13 k = ad2 at *
        generalize c13 - k = cR at *
        generalize O.take k = P at *
        generalize O.drop k = Rr at *
        obtain ⟨nn, hnn⟩ : ∃ nn : Nt, nn = (d, (0, 0), tm + 1, 110) := ⟨_, rfl⟩
        rw [← hnn] at HNn HOrd
        clear hnn
        refine Sch.wp_region_tn (fun w => Nb w g nn) (.val 0 (.val 1 (.val 2 (.val 4 (.val 7 (.val 8 (.val 9 (.two 3 (.one 5 (.one 6 (.one 10 (.val 11 .done)))) 5 (.one 3 (.one 6 (.one 10 (.val 11 .done)))))))))))) (by kernel_rfl) (by kernel_rfl) HNn.out ?_
        repeat (first
          | (refine Sch.tn_q rfl rfl rfl (fun K hK => ?_); go_big_quiet_op; (first | refine hK _ ?_ | refine ⟨_, fun _ _ => rfl, hK _ ?_⟩); clear hK K)
          | (refine Sch.tn_chk _ _ _ rfl rfl rfl rfl rfl ?_; simp only [Act.put, List.setIfInBounds_toArray, List.set_cons_zero, List.set_cons_succ])
          | (refine Sch.tn_load _ _ _ _ _ rfl rfl rfl rfl (by first | exact (fun w h => Nb.load h)) rfl ?_; simp only [Act.put, List.setIfInBounds_toArray, List.set_cons_zero, List.set_cons_succ]))
        generalize w41.drew = w42 at *
        have HY := Lib.hid (Below.refl w42.heap.size w42)
        refine Sch.tn_two ?_ ?_
        · skip
          refine Sch.tn_e rfl rfl (fun K hK => ?_)
          refine wp_appN _ _ _ rfl Tryz.underlying22 infoN (.slice none 0 0) [] rfl (ON.nil _ w42.heap.size _) _ P c13 k HLt.out.symm rfl HRP.out HON.out (by have := HLP.out; simp; omega) (Nat.le_refl _) ?_
          intro v1 w43 ho hg _
          have HO3 : Hid (ON w43 w42.heap.size EN v1 P) := ho
          replace HY := Lib.hid (HY.out.grown hg (Nat.le_refl _) (fun k hk => by cases hk))
          clear ho hg
          refine hK _ _ (HNn.out.keep HY.out) ?_
          clear hK K
          simp only [Act.put, List.setIfInBounds_toArray, List.set_cons_zero, List.set_cons_succ]
          refine Sch.tn_e rfl rfl (fun K hK => ?_)
          go_wp2_with fail
          have hb4 := bel_box w43 (.cells (nc nn) 43)
          have HO4 := Lib.hid (HO3.out.below hb4)
          replace HY := Lib.hid (HY.out.trans (hb4.mono HY.out.size))
          have HL4 : Hid (RowN (w43.alloc (.cells (nc nn) 43)) (some ⟨w43.heap.size, 0, none⟩) [nn]) := RowN.lit w43 [nn] _ _ _ rfl
          clear hb4 HO3
          refine hK _ _ (HNn.out.keep HY.out) ?_
          clear hK K
          generalize (w43.alloc (.cells (nc nn) 43)) = w44 at *
          refine Sch.tn_e rfl rfl (fun K hK => ?_)
          refine wp_appN _ _ _ rfl Tryz.underlying22 infoN v1 P rfl HO4.out (some ⟨w43.heap.size, 0, none⟩) [nn] 1 1 rfl rfl HL4.out (fun h => by cases h) (by have := HLP.out; simp; omega) HY.out.size ?_
          intro v2 w45 ho hg _
          replace HY := Lib.hid (HY.out.grown hg HY.out.size (fun k hk => (HO4.out.lt k hk).1))
          have HO5 := Lib.hid ho
          clear ho hg HO4 HL4
          refine hK _ _ (HNn.out.keep HY.out) ?_
          clear hK K
          simp only [Act.put, List.setIfInBounds_toArray, List.set_cons_zero, List.set_cons_succ]
          refine Sch.tn_e rfl rfl (fun K hK => ?_)
          refine wp_appN _ _ _ rfl Tryz.underlying22 infoN v2 (P ++ [nn]) rfl HO5.out ad2 Rr cR (O.length - k) HLd.out.symm rfl (HRR.out.keep HY.out) HN3.out (by have := HLP.out; simp; omega) HY.out.size ?_
          intro v3 w46 ho hg _
          replace HY := Lib.hid (HY.out.grown hg HY.out.size (fun k hk => (HO5.out.lt k hk).1))
          obtain ⟨Wt, hWt⟩ : ∃ Wt, Wt = (P ++ [nn]) ++ Rr := ⟨_, rfl⟩
          rw [← hWt] at ho HOrd
          clear hWt
          obtain ⟨aW, cW, rfl, hrW, -⟩ := ON.row ho
          have HWr := Lib.hid hrW
          clear ho hg hrW HO5
          refine hK _ _ (HNn.out.keep HY.out) ?_
          clear hK K
          simp only [Act.put, List.setIfInBounds_toArray, List.set_cons_zero, List.set_cons_succ]
          repeat (first
            | (refine Sch.tn_q rfl rfl rfl (fun K hK => ?_); go_big_quiet_op; (first | refine hK _ ?_ | refine ⟨_, fun _ _ => rfl, hK _ ?_⟩); clear hK K)
            | (refine Sch.tn_chk _ _ _ rfl rfl rfl rfl rfl ?_; simp only [Act.put, List.setIfInBounds_toArray, List.set_cons_zero, List.set_cons_succ])
            | (refine Sch.tn_load _ _ _ _ _ rfl rfl rfl rfl (by first | exact (fun w h => Nb.load h)) rfl ?_; simp only [Act.put, List.setIfInBounds_toArray, List.set_cons_zero, List.set_cons_succ]))
          refine Sch.tn_n ?_
          replace HB := Lib.hid (bel_tr HB.out HY.out)
          have HS6 := Lib.hid (HS.out.keep HY.out)
          have HOt := Lib.hid (HOrd.out aW cW w46 HS6.out HWr.out)
          clear HY HS HRP HRR HNn hcut hcut2 htm2 hmd hcv hcv2 hr0 hne0 hne1 hneb hkb hk0b htw HLt HLd HLP HN3 hkl hk0i hk0d HSl HOc HON
          go_wp2_with fail
          refine HOt.out.mono ?_
          rintro e w47 ⟨rfl, hb⟩
          replace HB := Lib.hid (bel_tr HB.out hb)
          clear hb HOt HS6 HWr
          go_wp2_with fail
          refine (HKn.out _).mono ?_
          rintro e w99 ⟨rfl, hb⟩
          replace HB := Lib.hid (bel_tr HB.out hb)
          clear hb HKn
          go_wp2_with fail
          go_ret
          exact ⟨rfl, HB.out⟩
        · skip
          refine Sch.tn_e rfl rfl (fun K hK => ?_)
          go_wp2_with fail
          have hb3 := bel_box w42 (.cells (nc nn) 43)
          have HL3 : Hid (RowN (w42.alloc (.cells (nc nn) 43)) (some ⟨w42.heap.size, 0, none⟩) [nn]) := RowN.lit w42 [nn] _ _ _ rfl
          replace HY := Lib.hid hb3
          have HRP3 := Lib.hid (HRP.out.keep hb3)
          clear hb3
          refine hK _ _ (HNn.out.keep HY.out) ?_
          clear hK K
          generalize (w42.alloc (.cells (nc nn) 43)) = w43 at *
          refine Sch.tn_e rfl rfl (fun K hK => ?_)
          refine wp_appN _ _ _ rfl Tryz.underlying22 infoN (.slice none 0 0) [] rfl (ON.nil _ w42.heap.size _) _ P c13 k HLt.out.symm rfl HRP3.out HON.out (by have := HLP.out; simp; omega) HY.out.size ?_
          intro v1 w44 ho hg _
          have HO4 : Hid (ON w44 w42.heap.size EN v1 P) := ho
          have hb4 : Below w43.heap.size w43 w44 := (Below.refl _ _).grown hg (Nat.le_refl _) (fun k hk => by cases hk)
          replace HY := Lib.hid (HY.out.trans (hb4.mono HY.out.size))
          have HL4 := Lib.hid (HL3.out.keep hb4)
          clear ho hg hb4 HL3 HRP3
          refine hK _ _ (HNn.out.keep HY.out) ?_
          clear hK K
          simp only [Act.put, List.setIfInBounds_toArray, List.set_cons_zero, List.set_cons_succ]
          refine Sch.tn_e rfl rfl (fun K hK => ?_)
          refine wp_appN _ _ _ rfl Tryz.underlying22 infoN v1 P rfl HO4.out (some ⟨w42.heap.size, 0, none⟩) [nn] 1 1 rfl rfl HL4.out (fun h => by cases h) (by have := HLP.out; simp; omega) HY.out.size ?_
          intro v2 w45 ho hg _
          replace HY := Lib.hid (HY.out.grown hg HY.out.size (fun k hk => (HO4.out.lt k hk).1))
          have HO5 := Lib.hid ho
          clear ho hg HO4 HL4
          refine hK _ _ (HNn.out.keep HY.out) ?_
          clear hK K
          simp only [Act.put, List.setIfInBounds_toArray, List.set_cons_zero, List.set_cons_succ]
          refine Sch.tn_e rfl rfl (fun K hK => ?_)
          refine wp_appN _ _ _ rfl Tryz.underlying22 infoN v2 (P ++ [nn]) rfl HO5.out ad2 Rr cR (O.length - k) HLd.out.symm rfl (HRR.out.keep HY.out) HN3.out (by have := HLP.out; simp; omega) HY.out.size ?_
          intro v3 w46 ho hg _
          replace HY := Lib.hid (HY.out.grown hg HY.out.size (fun k hk => (HO5.out.lt k hk).1))
          obtain ⟨Wt, hWt⟩ : ∃ Wt, Wt = (P ++ [nn]) ++ Rr := ⟨_, rfl⟩
          rw [← hWt] at ho HOrd
          clear hWt
          obtain ⟨aW, cW, rfl, hrW, -⟩ := ON.row ho
          have HWr := Lib.hid hrW
          clear ho hg hrW HO5
          refine hK _ _ (HNn.out.keep HY.out) ?_
          clear hK K
          simp only [Act.put, List.setIfInBounds_toArray, List.set_cons_zero, List.set_cons_succ]
          repeat (first
            | (refine Sch.tn_q rfl rfl rfl (fun K hK => ?_); go_big_quiet_op; (first | refine hK _ ?_ | refine ⟨_, fun _ _ => rfl, hK _ ?_⟩); clear hK K)
            | (refine Sch.tn_chk _ _ _ rfl rfl rfl rfl rfl ?_; simp only [Act.put, List.setIfInBounds_toArray, List.set_cons_zero, List.set_cons_succ])
            | (refine Sch.tn_load _ _ _ _ _ rfl rfl rfl rfl (by first | exact (fun w h => Nb.load h)) rfl ?_; simp only [Act.put, List.setIfInBounds_toArray, List.set_cons_zero, List.set_cons_succ]))
          refine Sch.tn_n ?_
          replace HB := Lib.hid (bel_tr HB.out HY.out)
          have HS6 := Lib.hid (HS.out.keep HY.out)
          have HOt := Lib.hid (HOrd.out aW cW w46 HS6.out HWr.out)
          clear HY HS HRP HRR HNn hcut hcut2 htm2 hmd hcv hcv2 hr0 hne0 hne1 hneb hkb hk0b htw HLt HLd HLP HN3 hkl hk0i hk0d HSl HOc HON
          go_wp2_with fail
          refine HOt.out.mono ?_
          rintro e w47 ⟨rfl, hb⟩
          replace HB := Lib.hid (bel_tr HB.out hb)
          clear hb HOt HS6 HWr
          go_wp2_with fail
          refine (HKn.out _).mono ?_
          rintro e w99 ⟨rfl, hb⟩
          replace HB := Lib.hid (bel_tr HB.out hb)
          clear hb HKn
          go_wp2_with fail
          go_ret
          exact ⟨rfl, HB.out⟩
      · have hk0i : (0 : Int) < (k : Int) := by omega
        have hk0d : decide ((0 : Int) < (k : Int)) = true := decide_eq_true hk0i
        obtain ⟨j, hj⟩ : ∃ j, k = j + 1 := ⟨k - 1, by omega⟩
        have hjl : j < O.length := by omega
        obtain ⟨b1, o1, hbo, hna⟩ := na_of (HO.out.keep HZ.out) j hjl
        have hix := ixN b1 o1 O.length c13 j ((k : Int) - 1) (by omega) hjl
        have HGk : Hid (gn k = (d, O[j].1, tm + 1, 110)) := by rw [hj]; exact HGd.out j hjl
        obtain ⟨q, hq⟩ : ∃ q, q = O[j] := ⟨_, rfl⟩
        rw [← hq] at hna HGk
        clear hq HGd HG0 HK HD hj hjl hk0
        subst hbo
        obtain ⟨⟨z0, z1, z2, z3, z4, z5⟩, hf⟩ := HN.out
        have f2 := hf 2
        have f3 := hf 3
        have HN2 := Lib.hid (HN.out.par q.1)
        have HZ2 := Lib.hid (below_parG HZ.out HZs.out (.int .i64 q.1.1) (.int .i64 q.1.2))
        obtain ⟨n0, n1, n2, n3, n4, n5⟩ := hna
        obtain ⟨⟨q1, q2⟩, ⟨q3, q4⟩, q5, q6⟩ := q
        clear hf HN HZ
        replace HGk : Hid (gn k = (d, (q1, q2), tm + 1, 110)) := HGk.out
        replace HN2 : Hid (Zn ((w30.setCell ⟨g, 2, none⟩ (.int .i64 q1)).setCell ⟨g, 3, none⟩ (.int .i64 q2)) g (d, (q1, q2), tm + 1, 110)) := HN2.out
        replace HZ2 : Hid (Below w25.heap.size w25 ((w30.setCell ⟨g, 2, none⟩ (.int .i64 q1)).setCell ⟨g, 3, none⟩ (.int .i64 q2))) := HZ2.out
        obtain ⟨⟨m0, m1, m2, m3, m4, m5⟩, -⟩ := HN2.out
        clear m0 m1 m2 m3 m4 m5
        obtain ⟨hp1, hp2, hp3, hp4⟩ := HG.out k hkl
        rw [HGk.out] at hp1 hp2 hp3 hp4
        have HPc := Lib.hid (HPp.out (d, (q1, q2), tm + 1, 110) _ hp2 (HX.out.keep HZ2.out))
        rw [hp1] at HPc
        have HSl : Hid ((setS l (d, (q1, q2), tm + 1, 110)).length ≤ 41) := by have := HLe.out; show _ ≤ _; omega
        have HOe := Lib.hid hp3
        clear hp1 hp2 hp3 hp4 HG HGk HPp
        replace HB := Lib.hid (bel_tr HB.out HZ2.out)
        replace HO := Lib.hid (HO.out.keep HZ2.out)
        generalize setS l (d, (q1, q2), tm + 1, 110) = S at *
        obtain ⟨y0, y1, y2, y3, y4, y5⟩ := HN2.out.1
        clear HX HZ2
        go_wp2_with fail
        refine HPc.out.mono ?_
        rintro e w41 ⟨v41, rfl, ho, hb⟩
        obtain ⟨aS, cS, rfl, hrS, -⟩ := ON.row ho
        have HS := Lib.hid hrS
        replace HB := Lib.hid (bel_tr HB.out hb)
        replace HO := Lib.hid (HO.out.keep hb)
        have HNn := Lib.hid (HN2.out.1.keep hb)
        clear ho hb hrS HPc HN2 y0 y1 y2 y3 y4 y5 n0 n1 n2 n3 n4 n5 z0 z1 z2 z3 z4 z5 f2 f3 hix
        have hcut := cut_loN (some (⟨b1, o1, none⟩ : Addr)) O.length c13 k (by have := HOc.out; omega)
        have hcut2 := cut_hiN (some (⟨b1, o1, none⟩ : Addr)) O.length c13 k (O.length - k) (by omega) HOc.out
        have HN3 : Hid (offN (some (⟨b1, o1, none⟩ : Addr)) c13 k = none → c13 - k = 0) := fun h => by have := HON.out (offN_none h); omega
        go_wp2_with fail
        have hb := (Below.refl w41.heap.size w41).drew
        replace HB := Lib.hid (bel_tr HB.out hb)
        replace HO := Lib.hid (HO.out.keep hb)
        replace HNn := Lib.hid (HNn.out.keep hb)
        replace HS := Lib.hid (HS.out.keep hb)
        have HRP := Lib.hid (HO.out.take k)
        have HRR := Lib.hid (offN_row HO.out c13 k HOc.out hkl)
        have HLt : Hid ((O.take k).length = k) := by show _ = _; rw [List.length_take]; omega
        have HLd : Hid ((O.drop k).length = O.length - k) := by show _ = _; rw [List.length_drop]
        have HLP : Hid ((O.take k).length + (O.drop k).length ≤ 100) := by have h1 := HLt.out; have h2 := HLd.out; show _ ≤ _; omega
        have HOrd := Lib.hid (fun aW cW w h h2 => ordered_true S aS cS ((O.take k ++ [(d, (q1, q2), tm + 1, 110)]) ++ O.drop k) 0 aW cW w h (by have := HSl.out; omega) (by rw [HOe.out]; simp) h2 (by have := HLP.out; simp only [List.length_append, List.length_cons, List.length_nil]; omega))
        clear hb HOe HO
        generalize offN (some (⟨b1, o1, none⟩ : Addr)) c13 k = ad2 at *
        generalize c13 - k = cR at *
        generalize O.take k = P at *
        generalize O.drop k = Rr at *
        obtain ⟨nn, hnn⟩ : ∃ nn : Nt, nn = (d, (q1, q2), tm + 1, 110) := ⟨_, rfl⟩
        rw [← hnn] at HNn HOrd
        clear hnn
        refine Sch.wp_region_tn (fun w => Nb w g nn) (.val 0 (.val 1 (.val 2 (.val 4 (.val 7 (.val 8 (.val 9 (.two 3 (.one 5 (.one 6 (.one 10 (.val 11 .done)))) 5 (.one 3 (.one 6 (.one 10 (.val 11 .done)))))))))))) (by kernel_rfl) (by kernel_rfl) HNn.out ?_
        repeat (first
          | (refine Sch.tn_q rfl rfl rfl (fun K hK => ?_); go_big_quiet_op; (first | refine hK _ ?_ | refine ⟨_, fun _ _ => rfl, hK _ ?_⟩); clear hK K)
          | (refine Sch.tn_chk _ _ _ rfl rfl rfl rfl rfl ?_; simp only [Act.put, List.setIfInBounds_toArray, List.set_cons_zero, List.set_cons_succ])
          | (refine Sch.tn_load _ _ _ _ _ rfl rfl rfl rfl (by first | exact (fun w h => Nb.load h)) rfl ?_; simp only [Act.put, List.setIfInBounds_toArray, List.set_cons_zero, List.set_cons_succ]))
        generalize w41.drew = w42 at *
        have HY := Lib.hid (Below.refl w42.heap.size w42)
        refine Sch.tn_two ?_ ?_
        · skip
          refine Sch.tn_e rfl rfl (fun K hK => ?_)
          refine wp_appN _ _ _ rfl Tryz.underlying22 infoN (.slice none 0 0) [] rfl (ON.nil _ w42.heap.size _) _ P c13 k HLt.out.symm rfl HRP.out HON.out (by have := HLP.out; simp; omega) (Nat.le_refl _) ?_
          intro v1 w43 ho hg _
          have HO3 : Hid (ON w43 w42.heap.size EN v1 P) := ho
          replace HY := Lib.hid (HY.out.grown hg (Nat.le_refl _) (fun k hk => by cases hk))
          clear ho hg
          refine hK _ _ (HNn.out.keep HY.out) ?_
          clear hK K
          simp only [Act.put, List.setIfInBounds_toArray, List.set_cons_zero, List.set_cons_succ]
          refine Sch.tn_e rfl rfl (fun K hK => ?_)
          go_wp2_with fail
          have hb4 := bel_box w43 (.cells (nc nn) 43)
          have HO4 := Lib.hid (HO3.out.below hb4)
          replace HY := Lib.hid (HY.out.trans (hb4.mono HY.out.size))
          have HL4 : Hid (RowN (w43.alloc (.cells (nc nn) 43)) (some ⟨w43.heap.size, 0, none⟩) [nn]) := RowN.lit w43 [nn] _ _ _ rfl
          clear hb4 HO3
          refine hK _ _ (HNn.out.keep HY.out) ?_
          clear hK K
          generalize (w43.alloc (.cells (nc nn) 43)) = w44 at *
          refine Sch.tn_e rfl rfl (fun K hK => ?_)
          refine wp_appN _ _ _ rfl Tryz.underlying22 infoN v1 P rfl HO4.out (some ⟨w43.heap.size, 0, none⟩) [nn] 1 1 rfl rfl HL4.out (fun h => by cases h) (by have := HLP.out; simp; omega) HY.out.size ?_
          intro v2 w45 ho hg _
          replace HY := Lib.hid (HY.out.grown hg HY.out.size (fun k hk => (HO4.out.lt k hk).1))
          have HO5 := Lib.hid ho
          clear ho hg HO4 HL4
          refine hK _ _ (HNn.out.keep HY.out) ?_
          clear hK K
          simp only [Act.put, List.setIfInBounds_toArray, List.set_cons_zero, List.set_cons_succ]
          refine Sch.tn_e rfl rfl (fun K hK => ?_)
          refine wp_appN _ _ _ rfl Tryz.underlying22 infoN v2 (P ++ [nn]) rfl HO5.out ad2 Rr cR (O.length - k) HLd.out.symm rfl (HRR.out.keep HY.out) HN3.out (by have := HLP.out; simp; omega) HY.out.size ?_
          intro v3 w46 ho hg _
          replace HY := Lib.hid (HY.out.grown hg HY.out.size (fun k hk => (HO5.out.lt k hk).1))
          obtain ⟨Wt, hWt⟩ : ∃ Wt, Wt = (P ++ [nn]) ++ Rr := ⟨_, rfl⟩
          rw [← hWt] at ho HOrd
          clear hWt
          obtain ⟨aW, cW, rfl, hrW, -⟩ := ON.row ho
          have HWr := Lib.hid hrW
          clear ho hg hrW HO5
          refine hK _ _ (HNn.out.keep HY.out) ?_
          clear hK K
          simp only [Act.put, List.setIfInBounds_toArray, List.set_cons_zero, List.set_cons_succ]
          repeat (first
            | (refine Sch.tn_q rfl rfl rfl (fun K hK => ?_); go_big_quiet_op; (first | refine hK _ ?_ | refine ⟨_, fun _ _ => rfl, hK _ ?_⟩); clear hK K)
            | (refine Sch.tn_chk _ _ _ rfl rfl rfl rfl rfl ?_; simp only [Act.put, List.setIfInBounds_toArray, List.set_cons_zero, List.set_cons_succ])
            | (refine Sch.tn_load _ _ _ _ _ rfl rfl rfl rfl (by first | exact (fun w h => Nb.load h)) rfl ?_; simp only [Act.put, List.setIfInBounds_toArray, List.set_cons_zero, List.set_cons_succ]))
          refine Sch.tn_n ?_
          replace HB := Lib.hid (bel_tr HB.out HY.out)
          have HS6 := Lib.hid (HS.out.keep HY.out)
          have HOt := Lib.hid (HOrd.out aW cW w46 HS6.out HWr.out)
          clear HY HS HRP HRR HNn hcut hcut2 htm2 hmd hcv hcv2 hr0 hne0 hne1 hneb hkb hk0b htw HLt HLd HLP HN3 hkl hk0i hk0d HSl HOc HON
          go_wp2_with fail
          refine HOt.out.mono ?_
          rintro e w47 ⟨rfl, hb⟩
          replace HB := Lib.hid (bel_tr HB.out hb)
          clear hb HOt HS6 HWr
          go_wp2_with fail
          refine (HKn.out _).mono ?_
          rintro e w99 ⟨rfl, hb⟩
          replace HB := Lib.hid (bel_tr HB.out hb)
          clear hb HKn
          go_wp2_with fail
          go_ret
          exact ⟨rfl, HB.out⟩
        · skip
          refine Sch.tn_e rfl rfl (fun K hK => ?_)
          go_wp2_with fail
          have hb3 := bel_box w42 (.cells (nc nn) 43)
          have HL3 : Hid (RowN (w42.alloc (.cells (nc nn) 43)) (some ⟨w42.heap.size, 0, none⟩) [nn]) := RowN.lit w42 [nn] _ _ _ rfl
          replace HY := Lib.hid hb3
          have HRP3 := Lib.hid (HRP.out.keep hb3)
          clear hb3
          refine hK _ _ (HNn.out.keep HY.out) ?_
          clear hK K
          generalize (w42.alloc (.cells (nc nn) 43)) = w43 at *
          refine Sch.tn_e rfl rfl (fun K hK => ?_)
          refine wp_appN _ _ _ rfl Tryz.underlying22 infoN (.slice none 0 0) [] rfl (ON.nil _ w42.heap.size _) _ P c13 k HLt.out.symm rfl HRP3.out HON.out (by have := HLP.out; simp; omega) HY.out.size ?_
          intro v1 w44 ho hg _
          have HO4 : Hid (ON w44 w42.heap.size EN v1 P) := ho
          have hb4 : Below w43.heap.size w43 w44 := (Below.refl _ _).grown hg (Nat.le_refl _) (fun k hk => by cases hk)
          replace HY := Lib.hid (HY.out.trans (hb4.mono HY.out.size))
          have HL4 := Lib.hid (HL3.out.keep hb4)
          clear ho hg hb4 HL3 HRP3
          refine hK _ _ (HNn.out.keep HY.out) ?_
          clear hK K
          simp only [Act.put, List.setIfInBounds_toArray, List.set_cons_zero, List.set_cons_succ]
          refine Sch.tn_e rfl rfl (fun K hK => ?_)
          refine wp_appN _ _ _ rfl Tryz.underlying22 infoN v1 P rfl HO4.out (some ⟨w42.heap.size, 0, none⟩) [nn] 1 1 rfl rfl HL4.out (fun h => by cases h) (by have := HLP.out; simp; omega) HY.out.size ?_
          intro v2 w45 ho hg _
          replace HY := Lib.hid (HY.out.grown hg HY.out.size (fun k hk => (HO4.out.lt k hk).1))
          have HO5 := Lib.hid ho
          clear ho hg HO4 HL4
          refine hK _ _ (HNn.out.keep HY.out) ?_
          clear hK K
          simp only [Act.put, List.setIfInBounds_toArray, List.set_cons_zero, List.set_cons_succ]
          refine Sch.tn_e rfl rfl (fun K hK => ?_)
          refine wp_appN _ _ _ rfl Tryz.underlying22 infoN v2 (P ++ [nn]) rfl HO5.out ad2 Rr cR (O.length - k) HLd.out.symm rfl (HRR.out.keep HY.out) HN3.out (by have := HLP.out; simp; omega) HY.out.size ?_
          intro v3 w46 ho hg _
          replace HY := Lib.hid (HY.out.grown hg HY.out.size (fun k hk => (HO5.out.lt k hk).1))
          obtain ⟨Wt, hWt⟩ : ∃ Wt, Wt = (P ++ [nn]) ++ Rr := ⟨_, rfl⟩
          rw [← hWt] at ho HOrd
          clear hWt
          obtain ⟨aW, cW, rfl, hrW, -⟩ := ON.row ho
          have HWr := Lib.hid hrW
          clear ho hg hrW HO5
          refine hK _ _ (HNn.out.keep HY.out) ?_
          clear hK K
          simp only [Act.put, List.setIfInBounds_toArray, List.set_cons_zero, List.set_cons_succ]
          repeat (first
            | (refine Sch.tn_q rfl rfl rfl (fun K hK => ?_); go_big_quiet_op; (first | refine hK _ ?_ | refine ⟨_, fun _ _ => rfl, hK _ ?_⟩); clear hK K)
            | (refine Sch.tn_chk _ _ _ rfl rfl rfl rfl rfl ?_; simp only [Act.put, List.setIfInBounds_toArray, List.set_cons_zero, List.set_cons_succ])
            | (refine Sch.tn_load _ _ _ _ _ rfl rfl rfl rfl (by first | exact (fun w h => Nb.load h)) rfl ?_; simp only [Act.put, List.setIfInBounds_toArray, List.set_cons_zero, List.set_cons_succ]))
          refine Sch.tn_n ?_
          replace HB := Lib.hid (bel_tr HB.out HY.out)
          have HS6 := Lib.hid (HS.out.keep HY.out)
          have HOt := Lib.hid (HOrd.out aW cW w46 HS6.out HWr.out)
          clear HY HS HRP HRR HNn hcut hcut2 htm2 hmd hcv hcv2 hr0 hne0 hne1 hneb hkb hk0b htw HLt HLd HLP HN3 hkl hk0i hk0d HSl HOc HON
          go_wp2_with fail
          refine HOt.out.mono ?_
          rintro e w47 ⟨rfl, hb⟩
          replace HB := Lib.hid (bel_tr HB.out hb)
          clear hb HOt HS6 HWr
          go_wp2_with fail
          refine (HKn.out _).mono ?_
          rintro e w99 ⟨rfl, hb⟩
          replace HB := Lib.hid (bel_tr HB.out hb)
          clear hb HKn
          go_wp2_with fail
          go_ret
          exact ⟨rfl, HB.out⟩
    · skip
      refine Sch.tn_e rfl rfl (fun K hK => ?_)
      go_wp2_with fail
      refine hK _ _ (HK.out.keep (bel_box w14 _)) ?_
      clear hK K
      have HZ : Hid (Below w14.heap.size w14 (w14.alloc (.cells #[.int .i64 0, .int .i64 0, .int .i64 0, .int .i64 0, .int .i64 0, .int .i32 0] 43))) := bel_box w14 _
      have HZb : Hid (Zb (w14.alloc (.cells #[.int .i64 0, .int .i64 0, .int .i64 0, .int .i64 0, .int .i64 0, .int .i32 0] 43)) w14.heap.size) := Zb.new w14
      have HX2 := Lib.hid (HX.out.keep HZ.out)
      have HK2 := Lib.hid (HK.out.keep HZ.out)
      generalize w14.alloc (.cells #[.int .i64 0, .int .i64 0, .int .i64 0, .int .i64 0, .int .i64 0, .int .i32 0] 43) = w15 at *
      refine Sch.tn_e rfl rfl (fun K hK => ?_)
      go_wp2_with fail
      refine (HTm.out _ HX2.out).mono ?_
      rintro e w26 ⟨rfl, hb⟩
      replace HZ := Lib.hid (bel_tr HZ.out hb)
      replace HZb := Lib.hid (HZb.out.keep hb)
      replace HK2 := Lib.hid (HK2.out.keep hb)
      clear hb HX2
      refine hK _ _ HK2.out ?_
      clear hK K
      repeat (first
        | (refine Sch.tn_q rfl rfl rfl (fun K hK => ?_); go_big_quiet_op; (first | refine hK _ ?_ | refine ⟨_, fun _ _ => rfl, hK _ ?_⟩); clear hK K)
        | (refine Sch.tn_chk _ _ _ rfl rfl rfl rfl rfl ?_; simp only [Act.put, List.setIfInBounds_toArray, List.set_cons_zero, List.set_cons_succ])
        | (refine Sch.tn_load _ _ _ _ _ rfl rfl rfl rfl (by first | exact Ke.l) rfl ?_; simp only [Act.put, List.setIfInBounds_toArray, List.set_cons_zero, List.set_cons_succ]))
      have HN := Lib.hid (Zn.put HZb.out (d, (0, 0), tm + 1, 110))
      have HZ3 := Lib.hid (Nd.putN_below HZ.out (Nat.le_refl _) (d, (0, 0), tm + 1, 110))
      obtain ⟨⟨z0, z1, z2, z3, z4, z5⟩, hf⟩ := HZb.out
      have f0 := hf 0
      have f1 := hf 1
      have f2 := hf 2
      have f3 := hf 3
      have f4 := hf 4
      have f5 := hf 5
      clear hf
      refine Sch.tn_e rfl rfl (fun K hK => ?_)
      go_wp2_with fail
      refine hK _ _ ⟨HZ3.out, HD.out.keep HZ3.out⟩ ?_
      clear hK K z0 z1 z2 z3 z4 z5 f0 f1 f2 f3 f4 f5 HZb HK2 HZ
      refine Sch.tn_n ?_
      have HZ := HZ3
      clear HZ3
      obtain ⟨g, hge⟩ : ∃ g, g = w14.heap.size := ⟨_, rfl⟩
      have HGe : Hid (w14.heap.size ≤ g) := by show _ ≤ _; omega
      simp only [Nd.putN] at HN HZ
      rw [← hge] at HN HZ ⊢
      generalize (((((w26.setCell ⟨g, 0, none⟩ (.int .i64 d.1)).setCell ⟨g, 1, none⟩ (.int .i64 d.2)).setCell ⟨g, 2, none⟩ (.int .i64 0)).setCell ⟨g, 3, none⟩ (.int .i64 0)).setCell ⟨g, 4, none⟩ (.int .i64 (tm + 1))).setCell ⟨g, 5, none⟩ (.int .i32 110) = w30 at *
      rw [hge] at HZ
      clear hge
      have HZs : Hid (w14.heap.size ≤ g) := HGe.out
      by_cases hk0 : k = 0
      · have hk0i : ¬ (0 : Int) < (k : Int) := by omega
        have hk0d : decide ((0 : Int) < (k : Int)) = false := decide_eq_false hk0i
        have HGk : Hid (gn k = (d, (0, 0), tm + 1, 110)) := by rw [hk0]; exact HG0.out
        clear HGd HG0 HK HD hk0
        obtain ⟨hp1, hp2, hp3, hp4⟩ := HG.out k hkl
        rw [HGk.out] at hp1 hp2 hp3 hp4
        have HPc := Lib.hid (HPp.out (d, (0, 0), tm + 1, 110) _ hp2 (HX.out.keep HZ.out))
        rw [hp1] at HPc
        have HSl : Hid ((setS l (d, (0, 0), tm + 1, 110)).length ≤ 41) := by have := HLe.out; show _ ≤ _; omega
        have HOe := Lib.hid hp3
        clear hp1 hp2 hp3 hp4 HG HGk HPp
        replace HB := Lib.hid (bel_tr HB.out HZ.out)
        replace HO := Lib.hid (HO.out.keep HZ.out)
        generalize setS l (d, (0, 0), tm + 1, 110) = S at *
        obtain ⟨y0, y1, y2, y3, y4, y5⟩ := HN.out.1
        clear HX HZ
        go_wp2_with fail
        refine HPc.out.mono ?_
        rintro e w41 ⟨v41, rfl, ho, hb⟩
        obtain ⟨aS, cS, rfl, hrS, -⟩ := ON.row ho
        have HS := Lib.hid hrS
        replace HB := Lib.hid (bel_tr HB.out hb)
        replace HO := Lib.hid (HO.out.keep hb)
        have HNn := Lib.hid (HN.out.1.keep hb)
        clear ho hb hrS HPc HN y0 y1 y2 y3 y4 y5 
        have hcut := cut_loN a13 O.length c13 k (by have := HOc.out; omega)
        have hcut2 := cut_hiN a13 O.length c13 k (O.length - k) (by omega) HOc.out
        have HN3 : Hid (offN a13 c13 k = none → c13 - k = 0) := fun h => by have := HON.out (offN_none h); omega
        go_wp2_with fail
        have hb := (Below.refl w41.heap.size w41).drew
        replace HB := Lib.hid (bel_tr HB.out hb)
        replace HO := Lib.hid (HO.out.keep hb)
        replace HNn := Lib.hid (HNn.out.keep hb)
        replace HS := Lib.hid (HS.out.keep hb)
        have HRP := Lib.hid (HO.out.take k)
        have HRR := Lib.hid (offN_row HO.out c13 k HOc.out hkl)
        have HLt : Hid ((O.take k).length = k) := by show _ = _; rw [List.length_take]; omega
        have HLd : Hid ((O.drop k).length = O.length - k) := by show _ = _; rw [List.length_drop]
        have HLP : Hid ((O.take k).length + (O.drop k).length ≤ 100) := by have h1 := HLt.out; have h2 := HLd.out; show _ ≤ _; omega
        have HOrd := Lib.hid (fun aW cW w h h2 => ordered_true S aS cS ((O.take k ++ [(d, (0, 0), tm + 1, 110)]) ++ O.drop k) 0 aW cW w h (by have := HSl.out; omega) (by rw [HOe.out]; simp) h2 (by have := HLP.out; simp only [List.length_append, List.length_cons, List.length_nil]; omega))
        clear hb HOe HO
        generalize offN a13 c13 k = ad2 at *
        generalize c13 - k = cR at *
        generalize O.take k = P at *
        generalize O.drop k = Rr at *
        obtain ⟨nn, hnn⟩ : ∃ nn : Nt, nn = (d, (0, 0), tm + 1, 110) := ⟨_, rfl⟩
        rw [← hnn] at HNn HOrd
        clear hnn
        refine Sch.wp_region_tn (fun w => Nb w g nn) (.val 0 (.val 1 (.val 2 (.val 4 (.val 7 (.val 8 (.val 9 (.two 3 (.one 5 (.one 6 (.one 10 (.val 11 .done)))) 5 (.one 3 (.one 6 (.one 10 (.val 11 .done)))))))))))) (by kernel_rfl) (by kernel_rfl) HNn.out ?_
        repeat (first
          | (refine Sch.tn_q rfl rfl rfl (fun K hK => ?_); go_big_quiet_op; (first | refine hK _ ?_ | refine ⟨_, fun _ _ => rfl, hK _ ?_⟩); clear hK K)
          | (refine Sch.tn_chk _ _ _ rfl rfl rfl rfl rfl ?_; simp only [Act.put, List.setIfInBounds_toArray, List.set_cons_zero, List.set_cons_succ])
          | (refine Sch.tn_load _ _ _ _ _ rfl rfl rfl rfl (by first | exact (fun w h => Nb.load h)) rfl ?_; simp only [Act.put, List.setIfInBounds_toArray, List.set_cons_zero, List.set_cons_succ]))
        generalize w41.drew = w42 at *
        have HY := Lib.hid (Below.refl w42.heap.size w42)
        refine Sch.tn_two ?_ ?_
        · skip
          refine Sch.tn_e rfl rfl (fun K hK => ?_)
          refine wp_appN _ _ _ rfl Tryz.underlying22 infoN (.slice none 0 0) [] rfl (ON.nil _ w42.heap.size _) _ P c13 k HLt.out.symm rfl HRP.out HON.out (by have := HLP.out; simp; omega) (Nat.le_refl _) ?_
          intro v1 w43 ho hg _
          have HO3 : Hid (ON w43 w42.heap.size EN v1 P) := ho
          replace HY := Lib.hid (HY.out.grown hg (Nat.le_refl _) (fun k hk => by cases hk))
          clear ho hg
          refine hK _ _ (HNn.out.keep HY.out) ?_
          clear hK K
          simp only [Act.put, List.setIfInBounds_toArray, List.set_cons_zero, List.set_cons_succ]
          refine Sch.tn_e rfl rfl (fun K hK => ?_)
          go_wp2_with fail
          have hb4 := bel_box w43 (.cells (nc nn) 43)
          have HO4 := Lib.hid (HO3.out.below hb4)
          replace HY := Lib.hid (HY.out.trans (hb4.mono HY.out.size))
          have HL4 : Hid (RowN (w43.alloc (.cells (nc nn) 43)) (some ⟨w43.heap.size, 0, none⟩) [nn]) := RowN.lit w43 [nn] _ _ _ rfl
          clear hb4 HO3
          refine hK _ _ (HNn.out.keep HY.out) ?_
          clear hK K
          generalize (w43.alloc (.cells (nc nn) 43)) = w44 at *
          refine Sch.tn_e rfl rfl (fun K hK => ?_)
          refine wp_appN _ _ _ rfl Tryz.underlying22 infoN v1 P rfl HO4.out (some ⟨w43.heap.size, 0, none⟩) [nn] 1 1 rfl rfl HL4.out (fun h => by cases h) (by have := HLP.out; simp; omega) HY.out.size ?_
          intro v2 w45 ho hg _
          replace HY := Lib.hid (HY.out.grown hg HY.out.size (fun k hk => (HO4.out.lt k hk).1))
          have HO5 := Lib.hid ho
          clear ho hg HO4 HL4
          refine hK _ _ (HNn.out.keep HY.out) ?_
          clear hK K
          simp only [Act.put, List.setIfInBounds_toArray, List.set_cons_zero, List.set_cons_succ]
          refine Sch.tn_e rfl rfl (fun K hK => ?_)
          refine wp_appN _ _ _ rfl Tryz.underlying22 infoN v2 (P ++ [nn]) rfl HO5.out ad2 Rr cR (O.length - k) HLd.out.symm rfl (HRR.out.keep HY.out) HN3.out (by have := HLP.out; simp; omega) HY.out.size ?_
          intro v3 w46 ho hg _
          replace HY := Lib.hid (HY.out.grown hg HY.out.size (fun k hk => (HO5.out.lt k hk).1))
          obtain ⟨Wt, hWt⟩ : ∃ Wt, Wt = (P ++ [nn]) ++ Rr := ⟨_, rfl⟩
          rw [← hWt] at ho HOrd
          clear hWt
          obtain ⟨aW, cW, rfl, hrW, -⟩ := ON.row ho
          have HWr := Lib.hid hrW
          clear ho hg hrW HO5
          refine hK _ _ (HNn.out.keep HY.out) ?_
          clear hK K
          simp only [Act.put, List.setIfInBounds_toArray, List.set_cons_zero, List.set_cons_succ]
          repeat (first
            | (refine Sch.tn_q rfl rfl rfl (fun K hK => ?_); go_big_quiet_op; (first | refine hK _ ?_ | refine ⟨_, fun _ _ => rfl, hK _ ?_⟩); clear hK K)
            | (refine Sch.tn_chk _ _ _ rfl rfl rfl rfl rfl ?_; simp only [Act.put, List.setIfInBounds_toArray, List.set_cons_zero, List.set_cons_succ])
            | (refine Sch.tn_load _ _ _ _ _ rfl rfl rfl rfl (by first | exact (fun w h => Nb.load h)) rfl ?_; simp only [Act.put, List.setIfInBounds_toArray, List.set_cons_zero, List.set_cons_succ]))
          refine Sch.tn_n ?_
          replace HB := Lib.hid (bel_tr HB.out HY.out)
          have HS6 := Lib.hid (HS.out.keep HY.out)
          have HOt := Lib.hid (HOrd.out aW cW w46 HS6.out HWr.out)
          clear HY HS HRP HRR HNn hcut hcut2 htm2 hmd hcv hcv2 hr0 hne0 hne1 hneb hkb hk0b htw HLt HLd HLP HN3 hkl hk0i hk0d HSl HOc HON
          go_wp2_with fail
          refine HOt.out.mono ?_
          rintro e w47 ⟨rfl, hb⟩
          replace HB := Lib.hid (bel_tr HB.out hb)
          clear hb HOt HS6 HWr
          go_wp2_with fail
          refine (HKn.out _).mono ?_
          rintro e w99 ⟨rfl, hb⟩
          replace HB := Lib.hid (bel_tr HB.out hb)
          clear hb HKn
          go_wp2_with fail
          go_ret
          exact ⟨rfl, HB.out⟩
        · skip
          refine Sch.tn_e rfl rfl (fun K hK => ?_)
          go_wp2_with fail
          have hb3 := bel_box w42 (.cells (nc nn) 43)
          have HL3 : Hid (RowN (w42.alloc (.cells (nc nn) 43)) (some ⟨w42.heap.size, 0, none⟩) [nn]) := RowN.lit w42 [nn] _ _ _ rfl
          replace HY := Lib.hid hb3
          have HRP3 := Lib.hid (HRP.out.keep hb3)
          clear hb3
          refine hK _ _ (HNn.out.keep HY.out) ?_
          clear hK K
          generalize (w42.alloc (.cells (nc nn) 43)) = w43 at *
          refine Sch.tn_e rfl rfl (fun K hK => ?_)
          refine wp_appN _ _ _ rfl Tryz.underlying22 infoN (.slice none 0 0) [] rfl (ON.nil _ w42.heap.size _) _ P c13 k HLt.out.symm rfl HRP3.out HON.out (by have := HLP.out; simp; omega) HY.out.size ?_
          intro v1 w44 ho hg _
          have HO4 : Hid (ON w44 w42.heap.size EN v1 P) := ho
          have hb4 : Below w43.heap.size w43 w44 := (Below.refl _ _).grown hg (Nat.le_refl _) (fun k hk => by cases hk)
          replace HY := Lib.hid (HY.out.trans (hb4.mono HY.out.size))
          have HL4 := Lib.hid (HL3.out.keep hb4)
          clear ho hg hb4 HL3 HRP3
          refine hK _ _ (HNn.out.keep HY.out) ?_
          clear hK K
          simp only [Act.put, List.setIfInBounds_toArray, List.set_cons_zero, List.set_cons_succ]
          refine Sch.tn_e rfl rfl (fun K hK => ?_)
          refine wp_appN _ _ _ rfl Tryz.underlying22 infoN v1 P rfl HO4.out (some ⟨w42.heap.size, 0, none⟩) [nn] 1 1 rfl rfl HL4.out (fun h => by cases h) (by have := HLP.out; simp; omega) HY.out.size ?_
          intro v2 w45 ho hg _
          replace HY := Lib.hid (HY.out.grown hg HY.out.size (fun k hk => (HO4.out.lt k hk).1))
          have HO5 := Lib.hid ho
          clear ho hg HO4 HL4
          refine hK _ _ (HNn.out.keep HY.out) ?_
          clear hK K
          simp only [Act.put, List.setIfInBounds_toArray, List.set_cons_zero, List.set_cons_succ]
          refine Sch.tn_e rfl rfl (fun K hK => ?_)
          refine wp_appN _ _ _ rfl Tryz.underlying22 infoN v2 (P ++ [nn]) rfl HO5.out ad2 Rr cR (O.length - k) HLd.out.symm rfl (HRR.out.keep HY.out) HN3.out (by have := HLP.out; simp; omega) HY.out.size ?_
          intro v3 w46 ho hg _
          replace HY := Lib.hid (HY.out.grown hg HY.out.size (fun k hk => (HO5.out.lt k hk).1))
          obtain ⟨Wt, hWt⟩ : ∃ Wt, Wt = (P ++ [nn]) ++ Rr := ⟨_, rfl⟩
          rw [← hWt] at ho HOrd
          clear hWt
          obtain ⟨aW, cW, rfl, hrW, -⟩ := ON.row ho
          have HWr := Lib.hid hrW
          clear ho hg hrW HO5
          refine hK _ _ (HNn.out.keep HY.out) ?_
          clear hK K
          simp only [Act.put, List.setIfInBounds_toArray, List.set_cons_zero, List.set_cons_succ]
          repeat (first
            | (refine Sch.tn_q rfl rfl rfl (fun K hK => ?_); go_big_quiet_op; (first | refine hK _ ?_ | refine ⟨_, fun _ _ => rfl, hK _ ?_⟩); clear hK K)
            | (refine Sch.tn_chk _ _ _ rfl rfl rfl rfl rfl ?_; simp only [Act.put, List.setIfInBounds_toArray, List.set_cons_zero, List.set_cons_succ])
            | (refine Sch.tn_load _ _ _ _ _ rfl rfl rfl rfl (by first | exact (fun w h => Nb.load h)) rfl ?_; simp only [Act.put, List.setIfInBounds_toArray, List.set_cons_zero, List.set_cons_succ]))
          refine Sch.tn_n ?_
          replace HB := Lib.hid (bel_tr HB.out HY.out)
          have HS6 := Lib.hid (HS.out.keep HY.out)
          have HOt := Lib.hid (HOrd.out aW cW w46 HS6.out HWr.out)
          clear HY HS HRP HRR HNn hcut hcut2 htm2 hmd hcv hcv2 hr0 hne0 hne1 hneb hkb hk0b htw HLt HLd HLP HN3 hkl hk0i hk0d HSl HOc HON
          go_wp2_with fail
          refine HOt.out.mono ?_
          rintro e w47 ⟨rfl, hb⟩
          replace HB := Lib.hid (bel_tr HB.out hb)
          clear hb HOt HS6 HWr
          go_wp2_with fail
          refine (HKn.out _).mono ?_
          rintro e w99 ⟨rfl, hb⟩
          replace HB := Lib.hid (bel_tr HB.out hb)
          clear hb HKn
          go_wp2_with fail
          go_ret
          exact ⟨rfl, HB.out⟩
      · have hk0i : (0 : Int) < (k : Int) := by omega
        have hk0d : decide ((0 : Int) < (k : Int)) = true := decide_eq_true hk0i
        obtain ⟨j, hj⟩ : ∃ j, k = j + 1 := ⟨k - 1, by omega⟩
        have hjl : j < O.length := by omega
        obtain ⟨b1, o1, hbo, hna⟩ := na_of (HO.out.keep HZ.out) j hjl
        have hix := ixN b1 o1 O.length c13 j ((k : Int) - 1) (by omega) hjl
        have HGk : Hid (gn k = (d, O[j].1, tm + 1, 110)) := by rw [hj]; exact HGd.out j hjl
        obtain ⟨q, hq⟩ : ∃ q, q = O[j] := ⟨_, rfl⟩
        rw [← hq] at hna HGk
        clear hq HGd HG0 HK HD hj hjl hk0
        subst hbo
        obtain ⟨⟨z0, z1, z2, z3, z4, z5⟩, hf⟩ := HN.out
        have f2 := hf 2
        have f3 := hf 3
        have HN2 := Lib.hid (HN.out.par q.1)
        have HZ2 := Lib.hid (below_parG HZ.out HZs.out (.int .i64 q.1.1) (.int .i64 q.1.2))
        obtain ⟨n0, n1, n2, n3, n4, n5⟩ := hna
        obtain ⟨⟨q1, q2⟩, ⟨q3, q4⟩, q5, q6⟩ := q
        clear hf HN HZ
        replace HGk : Hid (gn k = (d, (q1, q2), tm + 1, 110)) := HGk.out
        replace HN2 : Hid (Zn ((w30.setCell ⟨g, 2, none⟩ (.int .i64 q1)).setCell ⟨g, 3, none⟩ (.int .i64 q2)) g (d, (q1, q2), tm + 1, 110)) := HN2.out
        replace HZ2 : Hid (Below w14.heap.size w14 ((w30.setCell ⟨g, 2, none⟩ (.int .i64 q1)).setCell ⟨g, 3, none⟩ (.int .i64 q2))) := HZ2.out
        obtain ⟨⟨m0, m1, m2, m3, m4, m5⟩, -⟩ := HN2.out
        clear m0 m1 m2 m3 m4 m5
        obtain ⟨hp1, hp2, hp3, hp4⟩ := HG.out k hkl
        rw [HGk.out] at hp1 hp2 hp3 hp4
        have HPc := Lib.hid (HPp.out (d, (q1, q2), tm + 1, 110) _ hp2 (HX.out.keep HZ2.out))
        rw [hp1] at HPc
        have HSl : Hid ((setS l (d, (q1, q2), tm + 1, 110)).length ≤ 41) := by have := HLe.out; show _ ≤ _; omega
        have HOe := Lib.hid hp3
        clear hp1 hp2 hp3 hp4 HG HGk HPp
        replace HB := Lib.hid (bel_tr HB.out HZ2.out)
        replace HO := Lib.hid (HO.out.keep HZ2.out)
        generalize setS l (d, (q1, q2), tm + 1, 110) = S at *
        obtain ⟨y0, y1, y2, y3, y4, y5⟩ := HN2.out.1
        clear HX HZ2
        go_wp2_with fail
        refine HPc.out.mono ?_
        rintro e w41 ⟨v41, rfl, ho, hb⟩
        obtain ⟨aS, cS, rfl, hrS, -⟩ := ON.row ho
        have HS := Lib.hid hrS
        replace HB := Lib.hid (bel_tr HB.out hb)
        replace HO := Lib.hid (HO.out.keep hb)
        have HNn := Lib.hid (HN2.out.1.keep hb)
        clear ho hb hrS HPc HN2 y0 y1 y2 y3 y4 y5 n0 n1 n2 n3 n4 n5 z0 z1 z2 z3 z4 z5 f2 f3 hix
        have hcut := cut_loN (some (⟨b1, o1, none⟩ : Addr)) O.length c13 k (by have := HOc.out; omega)
        have hcut2 := cut_hiN (some (⟨b1, o1, none⟩ : Addr)) O.length c13 k (O.length - k) (by omega) HOc.out
        have HN3 : Hid (offN (some (⟨b1, o1, none⟩ : Addr)) c13 k = none → c13 - k = 0) := fun h => by have := HON.out (offN_none h); omega
        go_wp2_with fail
        have hb := (Below.refl w41.heap.size w41).drew
        replace HB := Lib.hid (bel_tr HB.out hb)
        replace HO := Lib.hid (HO.out.keep hb)
        replace HNn := Lib.hid (HNn.out.keep hb)
        replace HS := Lib.hid (HS.out.keep hb)
        have HRP := Lib.hid (HO.out.take k)
        have HRR := Lib.hid (offN_row HO.out c13 k HOc.out hkl)
        have HLt : Hid ((O.take k).length = k) := by show _ = _; rw [List.length_take]; omega
        have HLd : Hid ((O.drop k).length = O.length - k) := by show _ = _; rw [List.length_drop]
        have HLP : Hid ((O.take k).length + (O.drop k).length ≤ 100) := by have h1 := HLt.out; have h2 := HLd.out; show _ ≤ _; omega
        have HOrd := Lib.hid (fun aW cW w h h2 => ordered_true S aS cS ((O.take k ++ [(d, (q1, q2), tm + 1, 110)]) ++ O.drop k) 0 aW cW w h (by have := HSl.out; omega) (by rw [HOe.out]; simp) h2 (by have := HLP.out; simp only [List.length_append, List.length_cons, List.length_nil]; omega))
        clear hb HOe HO
        generalize offN (some (⟨b1, o1, none⟩ : Addr)) c13 k = ad2 at *
        generalize c13 - k = cR at *
        generalize O.take k = P at *
        generalize O.drop k = Rr at *
        obtain ⟨nn, hnn⟩ : ∃ nn : Nt, nn = (d, (q1, q2), tm + 1, 110) := ⟨_, rfl⟩
        rw [← hnn] at HNn HOrd
        clear hnn
        refine Sch.wp_region_tn (fun w => Nb w g nn) (.val 0 (.val 1 (.val 2 (.val 4 (.val 7 (.val 8 (.val 9 (.two 3 (.one 5 (.one 6 (.one 10 (.val 11 .done)))) 5 (.one 3 (.one 6 (.one 10 (.val 11 .done)))))))))))) (by kernel_rfl) (by kernel_rfl) HNn.out ?_
        repeat (first
          | (refine Sch.tn_q rfl rfl rfl (fun K hK => ?_); go_big_quiet_op; (first | refine hK _ ?_ | refine ⟨_, fun _ _ => rfl, hK _ ?_⟩); clear hK K)
          | (refine Sch.tn_chk _ _ _ rfl rfl rfl rfl rfl ?_; simp only [Act.put, List.setIfInBounds_toArray, List.set_cons_zero, List.set_cons_succ])
          | (refine Sch.tn_load _ _ _ _ _ rfl rfl rfl rfl (by first | exact (fun w h => Nb.load h)) rfl ?_; simp only [Act.put, List.setIfInBounds_toArray, List.set_cons_zero, List.set_cons_succ]))
        generalize w41.drew = w42 at *
        have HY := Lib.hid (Below.refl w42.heap.size w42)
        refine Sch.tn_two ?_ ?_
        · skip
          refine Sch.tn_e rfl rfl (fun K hK => ?_)
          refine wp_appN _ _ _ rfl Tryz.underlying22 infoN (.slice none 0 0) [] rfl (ON.nil _ w42.heap.size _) _ P c13 k HLt.out.symm rfl HRP.out HON.out (by have := HLP.out; simp; omega) (Nat.le_refl _) ?_
          intro v1 w43 ho hg _
          have HO3 : Hid (ON w43 w42.heap.size EN v1 P) := ho
          replace HY := Lib.hid (HY.out.grown hg (Nat.le_refl _) (fun k hk => by cases hk))
          clear ho hg
          refine hK _ _ (HNn.out.keep HY.out) ?_
          clear hK K
          simp only [Act.put, List.setIfInBounds_toArray, List.set_cons_zero, List.set_cons_succ]
          refine Sch.tn_e rfl rfl (fun K hK => ?_)
          go_wp2_with fail
          have hb4 := bel_box w43 (.cells (nc nn) 43)
          have HO4 := Lib.hid (HO3.out.below hb4)
          replace HY := Lib.hid (HY.out.trans (hb4.mono HY.out.size))
          have HL4 : Hid (RowN (w43.alloc (.cells (nc nn) 43)) (some ⟨w43.heap.size, 0, none⟩) [nn]) := RowN.lit w43 [nn] _ _ _ rfl
          clear hb4 HO3
          refine hK _ _ (HNn.out.keep HY.out) ?_
          clear hK K
          generalize (w43.alloc (.cells (nc nn) 43)) = w44 at *
          refine Sch.tn_e rfl rfl (fun K hK => ?_)
          refine wp_appN _ _ _ rfl Tryz.underlying22 infoN v1 P rfl HO4.out (some ⟨w43.heap.size, 0, none⟩) [nn] 1 1 rfl rfl HL4.out (fun h => by cases h) (by have := HLP.out; simp; omega) HY.out.size ?_
          intro v2 w45 ho hg _
          replace HY := Lib.hid (HY.out.grown hg HY.out.size (fun k hk => (HO4.out.lt k hk).1))
          have HO5 := Lib.hid ho
          clear ho hg HO4 HL4
          refine hK _ _ (HNn.out.keep HY.out) ?_
          clear hK K
          simp only [Act.put, List.setIfInBounds_toArray, List.set_cons_zero, List.set_cons_succ]
          refine Sch.tn_e rfl rfl (fun K hK => ?_)
          refine wp_appN _ _ _ rfl Tryz.underlying22 infoN v2 (P ++ [nn]) rfl HO5.out ad2 Rr cR (O.length - k) HLd.out.symm rfl (HRR.out.keep HY.out) HN3.out (by have := HLP.out; simp; omega) HY.out.size ?_
          intro v3 w46 ho hg _
          replace HY := Lib.hid (HY.out.grown hg HY.out.size (fun k hk => (HO5.out.lt k hk).1))
          obtain ⟨Wt, hWt⟩ : ∃ Wt, Wt = (P ++ [nn]) ++ Rr := ⟨_, rfl⟩
          rw [← hWt] at ho HOrd
          clear hWt
          obtain ⟨aW, cW, rfl, hrW, -⟩ := ON.row ho
          have HWr := Lib.hid hrW
          clear ho hg hrW HO5
          refine hK _ _ (HNn.out.keep HY.out) ?_
          clear hK K
          simp only [Act.put, List.setIfInBounds_toArray, List.set_cons_zero, List.set_cons_succ]
          repeat (first
            | (refine Sch.tn_q rfl rfl rfl (fun K hK => ?_); go_big_quiet_op; (first | refine hK _ ?_ | refine ⟨_, fun _ _ => rfl, hK _ ?_⟩); clear hK K)
            | (refine Sch.tn_chk _ _ _ rfl rfl rfl rfl rfl ?_; simp only [Act.put, List.setIfInBounds_toArray, List.set_cons_zero, List.set_cons_succ])
            | (refine Sch.tn_load _ _ _ _ _ rfl rfl rfl rfl (by first | exact (fun w h => Nb.load h)) rfl ?_; simp only [Act.put, List.setIfInBounds_toArray, List.set_cons_zero, List.set_cons_succ]))
          refine Sch.tn_n ?_
          replace HB := Lib.hid (bel_tr HB.out HY.out)
          have HS6 := Lib.hid (HS.out.keep HY.out)
          have HOt := Lib.hid (HOrd.out aW cW w46 HS6.out HWr.out)
          clear HY HS HRP HRR HNn hcut hcut2 htm2 hmd hcv hcv2 hr0 hne0 hne1 hneb hkb hk0b htw HLt HLd HLP HN3 hkl hk0i hk0d HSl HOc HON
          go_wp2_with fail
          refine HOt.out.mono ?_
          rintro e w47 ⟨rfl, hb⟩
          replace HB := Lib.hid (bel_tr HB.out hb)
          clear hb HOt HS6 HWr
          go_wp2_with fail
          refine (HKn.out _).mono ?_
          rintro e w99 ⟨rfl, hb⟩
          replace HB := Lib.hid (bel_tr HB.out hb)
          clear hb HKn
          go_wp2_with fail
          go_ret
          exact ⟨rfl, HB.out⟩
        · skip
          refine Sch.tn_e rfl rfl (fun K hK => ?_)
          go_wp2_with fail
          have hb3 := bel_box w42 (.cells (nc nn) 43)
          have HL3 : Hid (RowN (w42.alloc (.cells (nc nn) 43)) (some ⟨w42.heap.size, 0, none⟩) [nn]) := RowN.lit w42 [nn] _ _ _ rfl
          replace HY := Lib.hid hb3
          have HRP3 := Lib.hid (HRP.out.keep hb3)
          clear hb3
          refine hK _ _ (HNn.out.keep HY.out) ?_
          clear hK K
          generalize (w42.alloc (.cells (nc nn) 43)) = w43 at *
          refine Sch.tn_e rfl rfl (fun K hK => ?_)
          refine wp_appN _ _ _ rfl Tryz.underlying22 infoN (.slice none 0 0) [] rfl (ON.nil _ w42.heap.size _) _ P c13 k HLt.out.symm rfl HRP3.out HON.out (by have := HLP.out; simp; omega) HY.out.size ?_
          intro v1 w44 ho hg _
          have HO4 : Hid (ON w44 w42.heap.size EN v1 P) := ho
          have hb4 : Below w43.heap.size w43 w44 := (Below.refl _ _).grown hg (Nat.le_refl _) (fun k hk => by cases hk)
          replace HY := Lib.hid (HY.out.trans (hb4.mono HY.out.size))
          have HL4 := Lib.hid (HL3.out.keep hb4)
          clear ho hg hb4 HL3 HRP3
          refine hK _ _ (HNn.out.keep HY.out) ?_
          clear hK K
          simp only [Act.put, List.setIfInBounds_toArray, List.set_cons_zero, List.set_cons_succ]
          refine Sch.tn_e rfl rfl (fun K hK => ?_)
          refine wp_appN _ _ _ rfl Tryz.underlying22 infoN v1 P rfl HO4.out (some ⟨w42.heap.size, 0, none⟩) [nn] 1 1 rfl rfl HL4.out (fun h => by cases h) (by have := HLP.out; simp; omega) HY.out.size ?_
          intro v2 w45 ho hg _
          replace HY := Lib.hid (HY.out.grown hg HY.out.size (fun k hk => (HO4.out.lt k hk).1))
          have HO5 := Lib.hid ho
          clear ho hg HO4 HL4
          refine hK _ _ (HNn.out.keep HY.out) ?_
          clear hK K
          simp only [Act.put, List.setIfInBounds_toArray, List.set_cons_zero, List.set_cons_succ]
          refine Sch.tn_e rfl rfl (fun K hK => ?_)
          refine wp_appN _ _ _ rfl Tryz.underlying22 infoN v2 (P ++ [nn]) rfl HO5.out ad2 Rr cR (O.length - k) HLd.out.symm rfl (HRR.out.keep HY.out) HN3.out (by have := HLP.out; simp; omega) HY.out.size ?_
          intro v3 w46 ho hg _
          replace HY := Lib.hid (HY.out.grown hg HY.out.size (fun k hk => (HO5.out.lt k hk).1))
          obtain ⟨Wt, hWt⟩ : ∃ Wt, Wt = (P ++ [nn]) ++ Rr := ⟨_, rfl⟩
          rw [← hWt] at ho HOrd
          clear hWt
          obtain ⟨aW, cW, rfl, hrW, -⟩ := ON.row ho
          have HWr := Lib.hid hrW
          clear ho hg hrW HO5
          refine hK _ _ (HNn.out.keep HY.out) ?_
          clear hK K
          simp only [Act.put, List.setIfInBounds_toArray, List.set_cons_zero, List.set_cons_succ]
          repeat (first
            | (refine Sch.tn_q rfl rfl rfl (fun K hK => ?_); go_big_quiet_op; (first | refine hK _ ?_ | refine ⟨_, fun _ _ => rfl, hK _ ?_⟩); clear hK K)
            | (refine Sch.tn_chk _ _ _ rfl rfl rfl rfl rfl ?_; simp only [Act.put, List.setIfInBounds_toArray, List.set_cons_zero, List.set_cons_succ])
            | (refine Sch.tn_load _ _ _ _ _ rfl rfl rfl rfl (by first | exact (fun w h => Nb.load h)) rfl ?_; simp only [Act.put, List.setIfInBounds_toArray, List.set_cons_zero, List.set_cons_succ]))
          refine Sch.tn_n ?_
          replace HB := Lib.hid (bel_tr HB.out HY.out)
          have HS6 := Lib.hid (HS.out.keep HY.out)
          have HOt := Lib.hid (HOrd.out aW cW w46 HS6.out HWr.out)
          clear HY HS HRP HRR HNn hcut hcut2 htm2 hmd hcv hcv2 hr0 hne0 hne1 hneb hkb hk0b htw HLt HLd HLP HN3 hkl hk0i hk0d HSl HOc HON
          go_wp2_with fail
          refine HOt.out.mono ?_
          rintro e w47 ⟨rfl, hb⟩
          replace HB := Lib.hid (bel_tr HB.out hb)
          clear hb HOt HS6 HWr
          go_wp2_with fail
          refine (HKn.out _).mono ?_
          rintro e w99 ⟨rfl, hb⟩
          replace HB := Lib.hid (bel_tr HB.out hb)
          clear hb HKn
          go_wp2_with fail
          go_ret
          exact ⟨rfl, HB.out⟩
  · have hcl : decide ((0 : Int) < ((cc :: C).length : Int)) = true := decide_eq_true (by simp)
    have hcl2 : (0 : Int) < ((cc :: C).length : Int) := by simp
    go_wp2_with fail
    refine (HKn.out _).mono ?_
    rintro e w99 ⟨rfl, hb⟩
    replace HB := Lib.hid (bel_tr HB.out hb)
    clear hb HKn
    go_wp2_with fail
    go_ret
    exact ⟨rfl, HB.out⟩
end Go.Proofs.YteojbekkbgcmnaaGreat.Un
