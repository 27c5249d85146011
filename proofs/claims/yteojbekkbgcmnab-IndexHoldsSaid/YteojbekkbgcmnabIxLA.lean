/-
  What the laws of layer 12 call: each returns true; the examples' store.
-/
import Derived.Test.YteojbekkbgcmnabMIxF
import Derived.Test.YteojbekkbgcmnabMDCmp
import Derived.Test.YteojbekkbgcmnabMSchJ
import Derived.Test.YteojbekkbgcmnabMRTextC
namespace Go.Proofs.Yteojbekkbgcmnab.Un
set_option linter.unusedVariables false
open Go.RowKit V Go.Shelf Go.Sort D Nd Qs Wk Ix
attribute [local irreducible] Sch.heldN Sch.stepV Sch.stepE

theorem atI_any (r c : Int) (w : World) : Calls Try.prog 35 #[.int .i64 r, .int .i64 c] w fun e w' => e = .returned (dv (r, c)) ∧ Below w.heap.size w w' := by
  go_enter Try.func35, Try.ntmps35
  go_wp2_with fail
  (try simp only [Exit.inBlock, Exit.then])
  refine bodyPost_ret (v := .agg #[.int .i64 r, .int .i64 c]) (by rw [results_cell1 (fn := Try.f35) (p := 4) (ty := 34) rfl]; go_simp) rfl ?_
  exact ⟨rfl, bel_box _ _⟩
set_option maxRecDepth 100000 in
set_option maxHeartbeats 1000000 in
theorem texts_true (l : List Nt) (s : List UInt8) (q : Int) (a : Option Addr) (c : Nat) (w : World) (hx : RowN w a l) (hlx : l.length ≤ 400000) (h : textP l = (s, q)) :
    Calls Try.prog 10 #[.slice a l.length c, .string ⟨s.toArray⟩, .int .i64 q] w fun e w' => e = .returned (.bool true) ∧ Below w.heap.size w w' := by
  have HC := Lib.hid (text_prog l a c w hx hlx)
  rw [h] at HC
  clear hx hlx h
  generalize (⟨s.toArray⟩ : ByteArray) = S at *
  go_enter Try.func10, Try.ntmps10
  go_wp2_with fail
  refine HC.out.mono ?_
  rintro e w2 ⟨rfl, hb⟩
  have HB := Lib.hid hb
  clear hb HC
  go_wp2_with fail
  go_ret
  exact ⟨by simp, HB.out⟩
set_option maxRecDepth 100000 in
set_option maxHeartbeats 1000000 in
theorem has_true (l : List Nt) (n q : Int) (a : Option Addr) (c : Nat) (w : World) (hx : RowN w a l) (hlx : l.length ≤ 400000) (h : lenP l = (n, q)) :
    Calls Try.prog 12 #[.slice a l.length c, .int .i64 n, .int .i64 q] w fun e w' => e = .returned (.bool true) ∧ Below w.heap.size w w' := by
  have HC := Lib.hid (len_prog l a c w hx hlx)
  rw [h] at HC
  clear hx hlx h
  go_enter Try.func12, Try.ntmps12
  go_wp2_with fail
  refine HC.out.mono ?_
  rintro e w2 ⟨rfl, hb⟩
  have HB := Lib.hid hb
  clear hb HC
  go_wp2_with fail
  go_ret
  exact ⟨by simp, HB.out⟩
set_option maxRecDepth 100000 in
set_option maxHeartbeats 1000000 in
theorem chars_true (l : List Nt) (y : List Int) (q : Int) (a b : Option Addr) (c d : Nat) (w : World) (hx : RowN w a l) (hlx : l.length ≤ 400000) (h : runesQ l = (y, q)) (hy : G.RowI .i32 w b y) (hly : y.length ≤ 400000) :
    Calls Try.prog 11 #[.slice a l.length c, .slice b y.length d, .int .i64 q] w fun e w' => e = .returned (.bool true) ∧ Below w.heap.size w w' := by
  have HC := Lib.hid (runes_prog l a c w hx hlx)
  have HY := Lib.hid hy
  have HL := Lib.hid hly
  rw [h] at HC
  clear hx hlx h hy hly
  go_enter Try.func11, Try.ntmps11
  go_wp2_with fail
  refine HC.out.mono ?_
  rintro e w2 ⟨v, rfl, ho, hb⟩
  have HB := Lib.hid hb
  obtain ⟨a2, c2, rfl, hr, -⟩ := G.OI.row ho
  have hs := R.same_any y y a2 b c2 d w2 (by have := HL.out; omega) (by have := HL.out; omega) hr (HY.out.keep HB.out (Nat.le_refl _))
  rw [decide_eq_true rfl] at hs
  have HG := Lib.hid hs
  clear hb hr ho hs HC
  generalize y.length = ny at *
  go_wp2_with fail
  refine HG.out.mono ?_
  rintro e w3 ⟨rfl, hb⟩
  have HB2 := Lib.hid (bel_tr HB.out hb)
  clear hb
  go_wp2_with fail
  go_ret
  exact ⟨by simp, HB2.out⟩
set_option maxRecDepth 100000 in
set_option maxHeartbeats 1000000 in
theorem dotsI_true (l : List Nt) (i j : Int) (y : List Dt) (q : Int) (a b : Option Addr) (c d : Nat) (w : World) (hx : RowN w a l) (hlx : l.length ≤ 400000) (h : idotsI l i j = (y, q)) (hy : RowD w b y) (hly : y.length ≤ 400000) :
    Calls Try.prog 24 #[.slice a l.length c, .int .i64 i, .int .i64 j, .slice b y.length d, .int .i64 q] w fun e w' => e = .returned (.bool true) ∧ Below w.heap.size w w' := by
  have HC := Lib.hid (idots_prog l i j a c w hx hlx)
  have HY := Lib.hid hy
  have HL := Lib.hid hly
  rw [h] at HC
  clear hx hlx h hy hly
  go_enter Try.func24, Try.ntmps24
  go_wp2_with fail
  refine HC.out.mono ?_
  rintro e w2 ⟨v, rfl, ho, hb⟩
  have HB := Lib.hid hb
  obtain ⟨a2, c2, rfl, hr, -⟩ := OD.row ho
  have HG := Lib.hid (sameD_true y a2 b c2 d w2 hr (HY.out.keep HB.out) HL.out)
  clear hb hr ho HC
  generalize y.length = ny at *
  go_wp2_with fail
  refine HG.out.mono ?_
  rintro e w3 ⟨rfl, hb⟩
  have HB2 := Lib.hid (bel_tr HB.out hb)
  clear hb
  go_wp2_with fail
  go_ret
  exact ⟨by simp, HB2.out⟩
set_option maxRecDepth 100000 in
set_option maxHeartbeats 1000000 in
theorem ofI_true (l : List Nt) (d : Dt) (n q : Int) (a : Option Addr) (c : Nat) (w : World) (hx : RowN w a l) (hlx : l.length ≤ 400000) (h : ofI l d = (n, q)) :
    Calls Try.prog 17 #[.slice a l.length c, dv d, .int .i64 n, .int .i64 q] w fun e w' => e = .returned (.bool true) ∧ Below w.heap.size w w' := by
  have HB := Lib.hid (bel_box w (.cells #[.int .i64 d.1, .int .i64 d.2] 34))
  have HC := Lib.hid (ofI_prog l d a c _ (hx.keep HB.out) hlx)
  rw [h] at HC
  clear hx hlx h
  obtain ⟨d1, d2⟩ := d
  go_enter Try.func17, Try.ntmps17
  go_wp2_with fail
  refine HC.out.mono ?_
  rintro e w2 ⟨rfl, hb⟩
  have HB2 := Lib.hid (bel_tr HB.out hb)
  clear hb HC
  go_wp2_with fail
  go_ret
  exact ⟨by simp, HB2.out⟩
set_option maxRecDepth 100000 in
set_option maxHeartbeats 1000000 in
theorem befI_true (l : List Nt) (d : Dt) (n q : Int) (a : Option Addr) (c : Nat) (w : World) (hx : RowN w a l) (hlx : l.length ≤ 400000) (h : befI l d = (n, q)) :
    Calls Try.prog 18 #[.slice a l.length c, dv d, .int .i64 n, .int .i64 q] w fun e w' => e = .returned (.bool true) ∧ Below w.heap.size w w' := by
  have HB := Lib.hid (bel_box w (.cells #[.int .i64 d.1, .int .i64 d.2] 34))
  have HC := Lib.hid (befI_prog l d a c _ (hx.keep HB.out) hlx)
  rw [h] at HC
  clear hx hlx h
  obtain ⟨d1, d2⟩ := d
  go_enter Try.func18, Try.ntmps18
  go_wp2_with fail
  refine HC.out.mono ?_
  rintro e w2 ⟨rfl, hb⟩
  have HB2 := Lib.hid (bel_tr HB.out hb)
  clear hb HC
  go_wp2_with fail
  go_ret
  exact ⟨by simp, HB2.out⟩
set_option maxRecDepth 100000 in
set_option maxHeartbeats 1000000 in
theorem left_true (l : List Nt) (i : Int) (y : Dt) (q : Int) (a : Option Addr) (c : Nat) (w : World) (hx : RowN w a l) (hlx : l.length ≤ 400000) (h : leftI l i = (y, q)) :
    Calls Try.prog 23 #[.slice a l.length c, .int .i64 i, dv y, .int .i64 q] w fun e w' => e = .returned (.bool true) ∧ Below w.heap.size w w' := by
  have HB := Lib.hid (bel_box w (.cells #[.int .i64 y.1, .int .i64 y.2] 34))
  have HD := Lib.hid (bd_new w y)
  have HC := Lib.hid (leftI_prog l i a c _ (hx.keep HB.out) hlx)
  have HQ := Lib.hid (fun w => eql_yes (p := y) (q := y) rfl w)
  rw [h] at HC
  clear hx hlx h
  go_enter Try.func23, Try.ntmps23
  go_wp2_with fail
  generalize w.alloc (.cells #[.int .i64 y.1, .int .i64 y.2] 34) = w1 at *
  refine HC.out.mono ?_
  rintro e w2 ⟨rfl, hb⟩
  have hb2 := bel_tr hb (bel_box w2 (.cells #[.int .i64 y.1, .int .i64 y.2] 34))
  have HB2 := Lib.hid (bel_tr HB.out hb2)
  have c0 := (HD.out.keep hb2).c0
  have c1 := (HD.out.keep hb2).c1
  have hq := HQ.out
  clear hb hb2 HC HD HQ
  go_wp2_with fail
  go_ret
  exact ⟨by simp, HB2.out⟩
set_option maxRecDepth 100000 in
set_option maxHeartbeats 1000000 in
theorem sees_true (l : List Nt) (i : Int) (y : Nt) (q : Int) (a : Option Addr) (c : Nat) (w : World) (hx : RowN w a l) (hlx : l.length ≤ 400000) (h : atP l i = (y, q)) :
    Calls Try.prog 16 #[.slice a l.length c, .int .i64 i, nv y, .int .i64 q] w fun e w' => e = .returned (.bool true) ∧ Below w.heap.size w w' := by
  have HB := Lib.hid (bel_box w (.cells (nc y) 37))
  have HN := Lib.hid (Nb.new w y)
  have HC := Lib.hid (at_prog l i a c _ (hx.keep HB.out) hlx)
  have hq : ∀ w, Sem.run Try.prog (binOp .eql 37 (nv y) (nv y)) w = .ok (.bool true) w := fun w => by rw [eql_node, decide_eq_true rfl]
  have HQ := Lib.hid hq
  rw [h] at HC
  clear hx hlx h hq
  obtain ⟨⟨y1, y2⟩, ⟨y3, y4⟩, y5, y6⟩ := y
  go_enter Try.func16, Try.ntmps16
  go_wp2_with fail
  generalize w.alloc (.cells (nc ((y1, y2), (y3, y4), y5, y6)) 37) = w1 at *
  refine HC.out.mono ?_
  rintro e w2 ⟨rfl, hb⟩
  have hb2 := bel_tr hb (bel_box w2 (.cells (nc ((y1, y2), (y3, y4), y5, y6)) 37))
  have HB2 := Lib.hid (bel_tr HB.out hb2)
  obtain ⟨n0, n1, n2, n3, n4, n5⟩ := HN.out.keep hb2
  have hq := HQ.out
  clear hb hb2 HC HN HQ
  go_wp2_with fail
  go_ret
  exact ⟨by simp, HB2.out⟩
/-- The store of the examples. -/
def ixL : List Nt := [((1, 1), (0, 0), 1, 97), ((1, 2), (1, 1), 2, 98), ((2, 2), (1, 1), 2, 0), ((2, 3), (1, 2), 3, 100), ((1, 4), (0, 0), 4, 101), ((3, 4), (9, 9), 1, 102), ((3, 5), (3, 6), 1, 103), ((3, 6), (3, 5), 1, 104)]
/-- Its cells. -/
def ixC : Array Value := (cellsN ixL).toArray
set_option maxRecDepth 100000 in
set_option maxHeartbeats 4000000 in
theorem givenI_any (w : World) : Calls Try.prog 34 #[] w fun e w' => ∃ g, e = .returned (.slice (some ⟨g, 0, none⟩) 8 8) ∧ RowN w' (some ⟨g, 0, none⟩) ixL ∧ Below w.heap.size w w' := by
  have HD := Lib.hid (bd_new w (0, 0))
  have HB := Lib.hid (bel_box w (.cells #[.int .i64 0, .int .i64 0] 34))
  go_enter Try.func34, Try.ntmps34
  go_wp2_with fail
  have HDd := Lib.hid (HD.out.keep ((Below.refl _ _).drew))
  have HBd := Lib.hid HB.out.drew
  have a1 := Lib.hid (fun w' (h : Bd w' w.heap.size (0, 0)) => load_dotB h)
  clear HD HB
  generalize w.alloc (.cells #[.int .i64 0, .int .i64 0] 34) = w1 at *
  refine Sch.wp_region_tn (fun w' => Bd w' w.heap.size (0, 0)) (.val 1 (.val 13 (.one 0 (.val 2 (.one 3 (.one 4 (.val 5 (.one 6 (.one 7 (.val 8 (.one 9 (.one 10 (.val 11 (.one 12 (.val 14 (.one 15 (.one 16 (.val 17 (.one 18 (.one 19 (.val 20 (.one 21 (.one 22 (.val 23 (.one 24 (.val 25 .done)))))))))))))))))))))))))) (by kernel_rfl) (by kernel_rfl) HDd.out ?_
  repeat (first
    | (refine Sch.tn_q rfl rfl rfl (fun K hK => ?_); go_big_quiet_op; (first | refine hK _ ?_ | refine ⟨_, fun _ _ => rfl, hK _ ?_⟩); clear hK K)
    | (refine Sch.tn_chk _ _ _ rfl rfl rfl rfl rfl ?_; simp only [Act.put, List.setIfInBounds_toArray, List.set_cons_zero, List.set_cons_succ])
    | (refine Sch.tn_load _ _ _ _ _ rfl rfl rfl rfl (by first | exact a1.out) rfl ?_; simp only [Act.put, List.setIfInBounds_toArray, List.set_cons_zero, List.set_cons_succ]))
  generalize w1.drew = w2 at *
  refine Sch.tn_e rfl rfl (fun K hK => ?_)
  go_wp2_with fail
  refine (atI_any 1 1 _).mono ?_
  rintro e w3 ⟨rfl, hb⟩
  replace HDd := Lib.hid (HDd.out.keep hb)
  replace HBd := Lib.hid (bel_tr HBd.out hb)
  clear hb
  refine hK _ _ HDd.out ?_
  clear hK K
  repeat (first
    | (refine Sch.tn_q rfl rfl rfl (fun K hK => ?_); go_big_quiet_op; (first | refine hK _ ?_ | refine ⟨_, fun _ _ => rfl, hK _ ?_⟩); clear hK K)
    | (refine Sch.tn_chk _ _ _ rfl rfl rfl rfl rfl ?_; simp only [Act.put, List.setIfInBounds_toArray, List.set_cons_zero, List.set_cons_succ])
    | (refine Sch.tn_load _ _ _ _ _ rfl rfl rfl rfl (by first | exact a1.out) rfl ?_; simp only [Act.put, List.setIfInBounds_toArray, List.set_cons_zero, List.set_cons_succ]))
  refine Sch.tn_e rfl rfl (fun K hK => ?_)
  go_wp2_with fail
  refine (atI_any 1 2 _).mono ?_
  rintro e w3 ⟨rfl, hb⟩
  replace HDd := Lib.hid (HDd.out.keep hb)
  replace HBd := Lib.hid (bel_tr HBd.out hb)
  clear hb
  refine hK _ _ HDd.out ?_
  clear hK K
  refine Sch.tn_e rfl rfl (fun K hK => ?_)
  go_wp2_with fail
  refine (atI_any 1 1 _).mono ?_
  rintro e w3 ⟨rfl, hb⟩
  replace HDd := Lib.hid (HDd.out.keep hb)
  replace HBd := Lib.hid (bel_tr HBd.out hb)
  clear hb
  refine hK _ _ HDd.out ?_
  clear hK K
  repeat (first
    | (refine Sch.tn_q rfl rfl rfl (fun K hK => ?_); go_big_quiet_op; (first | refine hK _ ?_ | refine ⟨_, fun _ _ => rfl, hK _ ?_⟩); clear hK K)
    | (refine Sch.tn_chk _ _ _ rfl rfl rfl rfl rfl ?_; simp only [Act.put, List.setIfInBounds_toArray, List.set_cons_zero, List.set_cons_succ])
    | (refine Sch.tn_load _ _ _ _ _ rfl rfl rfl rfl (by first | exact a1.out) rfl ?_; simp only [Act.put, List.setIfInBounds_toArray, List.set_cons_zero, List.set_cons_succ]))
  refine Sch.tn_e rfl rfl (fun K hK => ?_)
  go_wp2_with fail
  refine (atI_any 2 2 _).mono ?_
  rintro e w3 ⟨rfl, hb⟩
  replace HDd := Lib.hid (HDd.out.keep hb)
  replace HBd := Lib.hid (bel_tr HBd.out hb)
  clear hb
  refine hK _ _ HDd.out ?_
  clear hK K
  refine Sch.tn_e rfl rfl (fun K hK => ?_)
  go_wp2_with fail
  refine (atI_any 1 1 _).mono ?_
  rintro e w3 ⟨rfl, hb⟩
  replace HDd := Lib.hid (HDd.out.keep hb)
  replace HBd := Lib.hid (bel_tr HBd.out hb)
  clear hb
  refine hK _ _ HDd.out ?_
  clear hK K
  repeat (first
    | (refine Sch.tn_q rfl rfl rfl (fun K hK => ?_); go_big_quiet_op; (first | refine hK _ ?_ | refine ⟨_, fun _ _ => rfl, hK _ ?_⟩); clear hK K)
    | (refine Sch.tn_chk _ _ _ rfl rfl rfl rfl rfl ?_; simp only [Act.put, List.setIfInBounds_toArray, List.set_cons_zero, List.set_cons_succ])
    | (refine Sch.tn_load _ _ _ _ _ rfl rfl rfl rfl (by first | exact a1.out) rfl ?_; simp only [Act.put, List.setIfInBounds_toArray, List.set_cons_zero, List.set_cons_succ]))
  refine Sch.tn_e rfl rfl (fun K hK => ?_)
  go_wp2_with fail
  refine (atI_any 2 3 _).mono ?_
  rintro e w3 ⟨rfl, hb⟩
  replace HDd := Lib.hid (HDd.out.keep hb)
  replace HBd := Lib.hid (bel_tr HBd.out hb)
  clear hb
  refine hK _ _ HDd.out ?_
  clear hK K
  refine Sch.tn_e rfl rfl (fun K hK => ?_)
  go_wp2_with fail
  refine (atI_any 1 2 _).mono ?_
  rintro e w3 ⟨rfl, hb⟩
  replace HDd := Lib.hid (HDd.out.keep hb)
  replace HBd := Lib.hid (bel_tr HBd.out hb)
  clear hb
  refine hK _ _ HDd.out ?_
  clear hK K
  repeat (first
    | (refine Sch.tn_q rfl rfl rfl (fun K hK => ?_); go_big_quiet_op; (first | refine hK _ ?_ | refine ⟨_, fun _ _ => rfl, hK _ ?_⟩); clear hK K)
    | (refine Sch.tn_chk _ _ _ rfl rfl rfl rfl rfl ?_; simp only [Act.put, List.setIfInBounds_toArray, List.set_cons_zero, List.set_cons_succ])
    | (refine Sch.tn_load _ _ _ _ _ rfl rfl rfl rfl (by first | exact a1.out) rfl ?_; simp only [Act.put, List.setIfInBounds_toArray, List.set_cons_zero, List.set_cons_succ]))
  refine Sch.tn_e rfl rfl (fun K hK => ?_)
  go_wp2_with fail
  refine (atI_any 1 4 _).mono ?_
  rintro e w3 ⟨rfl, hb⟩
  replace HDd := Lib.hid (HDd.out.keep hb)
  replace HBd := Lib.hid (bel_tr HBd.out hb)
  clear hb
  refine hK _ _ HDd.out ?_
  clear hK K
  repeat (first
    | (refine Sch.tn_q rfl rfl rfl (fun K hK => ?_); go_big_quiet_op; (first | refine hK _ ?_ | refine ⟨_, fun _ _ => rfl, hK _ ?_⟩); clear hK K)
    | (refine Sch.tn_chk _ _ _ rfl rfl rfl rfl rfl ?_; simp only [Act.put, List.setIfInBounds_toArray, List.set_cons_zero, List.set_cons_succ])
    | (refine Sch.tn_load _ _ _ _ _ rfl rfl rfl rfl (by first | exact a1.out) rfl ?_; simp only [Act.put, List.setIfInBounds_toArray, List.set_cons_zero, List.set_cons_succ]))
  refine Sch.tn_e rfl rfl (fun K hK => ?_)
  go_wp2_with fail
  refine (atI_any 3 4 _).mono ?_
  rintro e w3 ⟨rfl, hb⟩
  replace HDd := Lib.hid (HDd.out.keep hb)
  replace HBd := Lib.hid (bel_tr HBd.out hb)
  clear hb
  refine hK _ _ HDd.out ?_
  clear hK K
  refine Sch.tn_e rfl rfl (fun K hK => ?_)
  go_wp2_with fail
  refine (atI_any 9 9 _).mono ?_
  rintro e w3 ⟨rfl, hb⟩
  replace HDd := Lib.hid (HDd.out.keep hb)
  replace HBd := Lib.hid (bel_tr HBd.out hb)
  clear hb
  refine hK _ _ HDd.out ?_
  clear hK K
  repeat (first
    | (refine Sch.tn_q rfl rfl rfl (fun K hK => ?_); go_big_quiet_op; (first | refine hK _ ?_ | refine ⟨_, fun _ _ => rfl, hK _ ?_⟩); clear hK K)
    | (refine Sch.tn_chk _ _ _ rfl rfl rfl rfl rfl ?_; simp only [Act.put, List.setIfInBounds_toArray, List.set_cons_zero, List.set_cons_succ])
    | (refine Sch.tn_load _ _ _ _ _ rfl rfl rfl rfl (by first | exact a1.out) rfl ?_; simp only [Act.put, List.setIfInBounds_toArray, List.set_cons_zero, List.set_cons_succ]))
  refine Sch.tn_e rfl rfl (fun K hK => ?_)
  go_wp2_with fail
  refine (atI_any 3 5 _).mono ?_
  rintro e w3 ⟨rfl, hb⟩
  replace HDd := Lib.hid (HDd.out.keep hb)
  replace HBd := Lib.hid (bel_tr HBd.out hb)
  clear hb
  refine hK _ _ HDd.out ?_
  clear hK K
  refine Sch.tn_e rfl rfl (fun K hK => ?_)
  go_wp2_with fail
  refine (atI_any 3 6 _).mono ?_
  rintro e w3 ⟨rfl, hb⟩
  replace HDd := Lib.hid (HDd.out.keep hb)
  replace HBd := Lib.hid (bel_tr HBd.out hb)
  clear hb
  refine hK _ _ HDd.out ?_
  clear hK K
  repeat (first
    | (refine Sch.tn_q rfl rfl rfl (fun K hK => ?_); go_big_quiet_op; (first | refine hK _ ?_ | refine ⟨_, fun _ _ => rfl, hK _ ?_⟩); clear hK K)
    | (refine Sch.tn_chk _ _ _ rfl rfl rfl rfl rfl ?_; simp only [Act.put, List.setIfInBounds_toArray, List.set_cons_zero, List.set_cons_succ])
    | (refine Sch.tn_load _ _ _ _ _ rfl rfl rfl rfl (by first | exact a1.out) rfl ?_; simp only [Act.put, List.setIfInBounds_toArray, List.set_cons_zero, List.set_cons_succ]))
  refine Sch.tn_e rfl rfl (fun K hK => ?_)
  go_wp2_with fail
  refine (atI_any 3 6 _).mono ?_
  rintro e w3 ⟨rfl, hb⟩
  replace HDd := Lib.hid (HDd.out.keep hb)
  replace HBd := Lib.hid (bel_tr HBd.out hb)
  clear hb
  refine hK _ _ HDd.out ?_
  clear hK K
  refine Sch.tn_e rfl rfl (fun K hK => ?_)
  go_wp2_with fail
  refine (atI_any 3 5 _).mono ?_
  rintro e w3 ⟨rfl, hb⟩
  replace HDd := Lib.hid (HDd.out.keep hb)
  replace HBd := Lib.hid (bel_tr HBd.out hb)
  clear hb
  refine hK _ _ HDd.out ?_
  clear hK K
  repeat (first
    | (refine Sch.tn_q rfl rfl rfl (fun K hK => ?_); go_big_quiet_op; (first | refine hK _ ?_ | refine ⟨_, fun _ _ => rfl, hK _ ?_⟩); clear hK K)
    | (refine Sch.tn_chk _ _ _ rfl rfl rfl rfl rfl ?_; simp only [Act.put, List.setIfInBounds_toArray, List.set_cons_zero, List.set_cons_succ])
    | (refine Sch.tn_load _ _ _ _ _ rfl rfl rfl rfl (by first | exact a1.out) rfl ?_; simp only [Act.put, List.setIfInBounds_toArray, List.set_cons_zero, List.set_cons_succ]))
  have hbn := bel_box w3 (.cells ixC 37)
  have HX : Hid (RowN (w3.alloc (.cells ixC 37)) (some ⟨w3.heap.size, 0, none⟩) ixL) := RowN.lit w3 ixL ixC 37 (0, 0) rfl
  replace HDd := Lib.hid (HDd.out.keep hbn)
  replace HBd := Lib.hid (bel_tr HBd.out hbn)
  clear hbn
  refine Sch.tn_e rfl rfl (fun K hK => ?_)
  go_wp2_with fail
  refine hK _ (w3.alloc (.cells ixC 37)) HDd.out ?_
  clear hK K
  generalize w3.alloc (.cells ixC 37) = w4 at *
  generalize w3.heap.size = g4 at *
  repeat (first
    | (refine Sch.tn_q rfl rfl rfl (fun K hK => ?_); go_big_quiet_op; (first | refine hK _ ?_ | refine ⟨_, fun _ _ => rfl, hK _ ?_⟩); clear hK K)
    | (refine Sch.tn_chk _ _ _ rfl rfl rfl rfl rfl ?_; simp only [Act.put, List.setIfInBounds_toArray, List.set_cons_zero, List.set_cons_succ])
    | (refine Sch.tn_load _ _ _ _ _ rfl rfl rfl rfl (by first | exact a1.out) rfl ?_; simp only [Act.put, List.setIfInBounds_toArray, List.set_cons_zero, List.set_cons_succ]))
  refine Sch.tn_n ?_
  go_wp2_with fail
  go_ret
  exact ⟨g4, rfl, HX.out, HBd.out⟩

end Go.Proofs.Yteojbekkbgcmnab.Un
