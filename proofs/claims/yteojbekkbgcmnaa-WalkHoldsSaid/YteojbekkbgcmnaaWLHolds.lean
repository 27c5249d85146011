/-
  The law WalkHolds.
-/
import Derived.Test.YteojbekkbgcmnaaMWKnG
import Derived.Test.YteojbekkbgcmnaaWPX
namespace Go.Proofs.Yteojbekkbgcmnaa.Un
set_option linter.unusedVariables false
open Go.RowKit V Go.Shelf D Nd Qs Wk
attribute [local irreducible] Sch.heldN Sch.stepV Sch.stepE

theorem cut_midH (a : Option Addr) (len cap m n : Nat) (hmn : m ≤ n) (hn : n ≤ len) (hlc : len ≤ cap) : ∀ wx : World,
    (Instr.slice 22 (.slice a len cap) (some (.int .i64 (m : Int))) (some (.int .i64 (n : Int))) none).run Try.prog wx = .ok (.slice (offN a cap m) (n - m) (cap - m)) wx := by
  obtain ⟨i, hi, hz0, hz1, hz2⟩ := G.info_of infoN
  intro wx
  have h1 : (Instr.sliceBound (.int .i64 (n : Int)) cap .sliceAcap).run Try.prog wx = .ok n wx := by
    rw [run_sliceBound _ _ _ _ _ (by omega) (by omega)]; rfl
  have h2 : (Instr.sliceBound (.int .i64 (m : Int)) n .sliceB).run Try.prog wx = .ok m wx := by
    rw [run_sliceBound _ _ _ _ _ (by omega) (by omega)]; rfl
  simp [Instr.slice, run_underlying Try.underlying22, Instr.sliceBounds, h1, h2, Result.andThen, sizeOf, typeInfo, hi, hz1, offN]
/-- What stands before an index of a path. -/
def upP (p : List Dt) (j : Nat) : Dt := if h : 0 < j ∧ j - 1 < p.length then p[j - 1]'h.2 else (0, 0)
theorem up_zero (p : List Dt) : upP p 0 = (0, 0) := by unfold upP; rw [dif_neg (by omega)]
theorem up_succ {p : List Dt} {j : Nat} (h : j < p.length) : upP p (j + 1) = p[j] := by unfold upP; rw [dif_pos ⟨by omega, by omega⟩]; rfl
structure Hq (l O : List Nt) (G : List Dt) (k : Nat) (q : Nt) (C : List Nt) (B p : List Dt) : Prop where
  lost : ¬ q.1 ∈ G
  up : rootR q.2.1 = false → q.2.1 ∈ (O.take k).map (·.1)
  ch : childP l q.1 = (C, 0)
  first : ∀ c t, C = c :: t → ∃ h2 : k + 1 < O.length, O[k + 1] = c
  cl : C.length ≤ 40
  be : belowP l q.1 = (B, 0)
  bl : k + 1 + B.length ≤ O.length
  bn : B = ((O.drop (k + 1)).take B.length).map (·.1)
  pa : pathP l q.1 = (p, 0)
  p0 : 0 < p.length
  pl : p.length ≤ 40
  last : ∀ h : p.length - 1 < p.length, p[p.length - 1] = q.1
  fd : ∀ j (hj : j < p.length), ∃ x, findS l p[j] = (x, 0) ∧ fitD p[j] ∧ x.2.1 = upP p j
theorem hq_of {l : List Nt} (hv : validS l = true) (hl : l.length ≤ 40) (k : Nat) (hk : k < (orderS l).length) : ∃ C B p, Hq l (orderS l) (lostS l) k (orderS l)[k] C B p := by
  obtain ⟨h1, h2⟩ := hold_valid hv k hk
  obtain ⟨-, pp, hpp⟩ := hold_in hv k hk
  obtain ⟨p, e1, e2, e3, e4, e5⟩ := hold_path hv k hk
  have hq : pathQ l (orderS l)[k].1 = some pp := pathQ_some h2 hpp
  refine ⟨childS l (orderS l)[k].1, dotsB l (orderS l)[k].1, p, hold_lost hv k hk, hold_up hv k hk, ?_, fun c t h => hold_child hv k hk h, ?_, ?_, (hold_below hv k hk).1, (hold_below hv k hk).2, e1, e2, by omega, e4, fun j hj => ?_⟩
  · unfold childP
    rw [if_pos (by rw [hv, h1]; simp)]
  · have := child_len l (orderS l)[k].1; omega
  · unfold belowP belowQ
    rw [if_pos (by rw [hv, h1]; simp), if_neg (by rw [h2]; decide), hq]
  · obtain ⟨x, x1, x2, x3⟩ := e5 j hj
    refine ⟨x, x1, x2, x3.trans ?_⟩
    unfold upP
    by_cases h0 : j = 0
    · rw [dif_pos h0, dif_neg (by omega)]
    · rw [dif_neg h0, dif_pos ⟨by omega, by omega⟩]
/-- The node's box, in the worlds behind one. -/
def Kh (w5 : World) (g : Nat) (q : Nt) (w : World) : Prop := Below w5.heap.size w5 w ∧ Nb w g q
theorem Kh.keep {w5 : World} {g : Nat} {q : Nt} {w w' : World} (h : Kh w5 g q w) (hb : Below w.heap.size w w') : Kh w5 g q w' := ⟨bel_tr h.1 hb, h.2.keep hb⟩
theorem Kh.l0 {w5 : World} {g : Nat} {q : Nt} : ∀ w, Kh w5 g q w → (Instr.loadAt 24 (.pointer (some ⟨g, 0, none⟩))).run Try.prog w = .ok (dv q.1) w := fun w h => h.2.loadD
theorem Kh.l2 {w5 : World} {g : Nat} {q : Nt} : ∀ w, Kh w5 g q w → (Instr.loadAt 24 (.pointer (some ⟨g, 2, none⟩))).run Try.prog w = .ok (dv q.2.1) w := fun w h => h.2.loadP
def K13 (b o b2 o2 : Nat) (c : Nt) (w : World) : Prop := Na w b o c ∧ Na w b2 o2 c
theorem K13.l0 {b o b2 o2 : Nat} {c : Nt} : ∀ w, K13 b o b2 o2 c w → (Instr.loadAt 35 (.pointer (some ⟨b, o, none⟩))).run Try.prog w = .ok (nv c) w := fun w h => Na.load h.1
theorem K13.l1 {b o b2 o2 : Nat} {c : Nt} : ∀ w, K13 b o b2 o2 c w → (Instr.loadAt 35 (.pointer (some ⟨b2, o2, none⟩))).run Try.prog w = .ok (nv c) w := fun w h => Na.load h.2
def Dc (w : World) (b o : Nat) (d : Dt) : Prop := w.cell? ⟨b, o, none⟩ = some (.int .i64 d.1) ∧ w.cell? ⟨b, o + 1, none⟩ = some (.int .i64 d.2)
theorem Dc.load {w : World} {b o : Nat} {d : Dt} (h : Dc w b o d) : (Instr.loadAt 24 (.pointer (some ⟨b, o, none⟩))).run Try.prog w = .ok (dv d) w := by
  obtain ⟨h0, h1⟩ := h
  go_simp
theorem rowD_at {w w' : World} {b o : Nat} {l : List Dt} (h : RowD w (some ⟨b, o, none⟩) l) (hb : Below w.heap.size w w') (k : Nat) (hk : k < l.length) : Dc w' b (o + k * 2) l[k] := by
  obtain ⟨b', o', e, h0, h1⟩ := h.get hb k hk
  cases e
  exact ⟨h0, h1⟩
def K19 (b o g : Nat) (q : Nt) (w : World) : Prop := Dc w b o q.1 ∧ Nb w g q
theorem K19.l0 {b o g : Nat} {q : Nt} : ∀ w, K19 b o g q w → (Instr.loadAt 24 (.pointer (some ⟨b, o, none⟩))).run Try.prog w = .ok (dv q.1) w := fun w h => h.1.load
theorem K19.l1 {b o g : Nat} {q : Nt} : ∀ w, K19 b o g q w → (Instr.loadAt 24 (.pointer (some ⟨g, 0, none⟩))).run Try.prog w = .ok (dv q.1) w := fun w h => h.2.loadD
theorem belD {B : Nat} {a w : World} {g : Nat} (h : Below B a w) (hg : B ≤ g) (d : Dt) : Below B a ((w.setCell ⟨g, 0, none⟩ (.int .i64 d.1)).setCell ⟨g, 1, none⟩ (.int .i64 d.2)) :=
  (h.setCell (p := ⟨g, 0, none⟩) hg _).setCell (p := ⟨g, 1, none⟩) hg _
set_option maxRecDepth 100000 in
set_option maxHeartbeats 32000000 in
theorem holds_law (l : List Nt) (a : Option Addr) (c : Nat) (w : World) (hfn : ∀ x ∈ l, fitN x) (hx : RowN w a l) :
    Calls Try.prog 6 #[.slice a l.length c] w fun e w' => e = .returned (.bool true) ∧ Below w.heap.size w w' := by
  have HKn := Lib.hid (fun w => known_any w)
  have HB := Lib.hid (Below.refl w.heap.size w)
  by_cases hbig : 40 < l.length
  · have hg : (40 : Int) < (l.length : Int) := by omega
    have hgd : decide ((40 : Int) < (l.length : Int)) = true := decide_eq_true hg
    go_enter Try.func6, Try.ntmps6
    go_wp2_with fail
    refine (HKn.out _).mono ?_
    rintro e w99 ⟨rfl, hb⟩
    replace HB := Lib.hid (bel_tr HB.out hb)
    clear hb HKn
    go_wp2_with fail
    go_ret
    exact ⟨rfl, HB.out⟩
  have hle : l.length ≤ 40 := by omega
  have hng : ¬ (40 : Int) < (l.length : Int) := by omega
  have hngd : decide ((40 : Int) < (l.length : Int)) = false := decide_eq_false hng
  have HX := Lib.hid hx
  have HLe := Lib.hid hle
  have HVl := Lib.hid (fun w h => validS_any l a c w h (by omega))
  have HOc := Lib.hid (fun w h => order_prog l a c w h (by omega))
  have HLc := Lib.hid (fun w h => lost_prog l a c w h (by omega))
  have HNl := Lib.hid (fun w h => names_any l a c w h (by omega))
  have HCh := Lib.hid (fun d w h => child_prog l d a c w h (by omega))
  have HBl := Lib.hid (fun d w h => below_prog l d a c w h (by omega))
  have HPt := Lib.hid (fun d w h => path_prog l d a c w h (by omega))
  have HFd := Lib.hid (fun d w hd h => find_any l d a c w hfn hd h (by omega))
  rcases hv : validS l with _ | _
  · rw [hv] at HVl
    clear hv hbig hfn hx hle
    go_enter Try.func6, Try.ntmps6
    go_wp2_with fail
    refine (HVl.out _ HX.out).mono ?_
    rintro e w21 ⟨rfl, hb⟩
    replace HB := Lib.hid (bel_tr HB.out hb)
    replace HX := Lib.hid (HX.out.keep hb)
    clear hb
    go_wp2_with fail
    refine (HKn.out _).mono ?_
    rintro e w99 ⟨rfl, hb⟩
    replace HB := Lib.hid (bel_tr HB.out hb)
    clear hb HKn
    go_wp2_with fail
    go_ret
    exact ⟨rfl, HB.out⟩
  rw [hv] at HVl
  have HOe : Hid (orderP l = (orderS l, 0)) := by show _ = _; unfold orderP; rw [if_pos hv]
  have HLo : Hid (lostP l = (lostS l, 0)) := by show _ = _; unfold lostP; rw [if_pos hv]
  rw [HOe.out] at HOc
  rw [HLo.out] at HLc
  have HLn : Hid ((orderS l).length + (lostS l).length = l.length) := both_len hv
  have HUe : Hid (unionR ((orderS l).map (·.1)) (lostS l) = l.map (·.1)) := both_union hv
  have HQ : Hid (∀ k (hk : k < (orderS l).length), ∃ C B p, Hq l (orderS l) (lostS l) k (orderS l)[k] C B p) := fun k hk => hq_of hv hle k hk
  clear hv hbig hfn hx hle HOe HLo
  generalize orderS l = O at *
  generalize lostS l = G at *
  have hln : (O.length : Int) + (G.length : Int) = (l.length : Int) := by have := HLn.out; omega
  have HOl : Hid (O.length ≤ 40) := by have h1 := HLn.out; have h2 := HLe.out; show _ ≤ _; omega
  have HGl : Hid (G.length ≤ 40) := by have h1 := HLn.out; have h2 := HLe.out; show _ ≤ _; omega
  go_enter Try.func6, Try.ntmps6
  go_wp2_with fail
  refine (HVl.out _ HX.out).mono ?_
  rintro e w22 ⟨rfl, hb⟩
  replace HB := Lib.hid (bel_tr HB.out hb)
  replace HX := Lib.hid (HX.out.keep hb)
  clear hb
  go_wp2_with fail
  refine (HOc.out _ HX.out).mono ?_
  rintro e w2 ⟨v2, rfl, ho, hb⟩
  obtain ⟨aO, cO, rfl, hrO, -, hcO, -⟩ := ON.row ho
  have HO := Lib.hid hrO
  have HCo := Lib.hid hcO
  replace HB := Lib.hid (bel_tr HB.out hb)
  replace HX := Lib.hid (HX.out.keep hb)
  clear ho hb hrO hcO HOc HVl
  go_wp2_with fail
  refine (HLc.out _ HX.out).mono ?_
  rintro e w3 ⟨v3, rfl, hs, hb⟩
  obtain ⟨aG, cG, rfl, hrG⟩ := hs
  have HG := Lib.hid hrG
  replace HB := Lib.hid (bel_tr HB.out hb)
  replace HX := Lib.hid (HX.out.keep hb)
  replace HO := Lib.hid (HO.out.keep hb)
  clear hb hrG HLc
  go_wp2_with fail
  refine (names_any O aO cO _ HO.out (by have := HOl.out; omega)).mono ?_
  rintro e w4 ⟨v4, rfl, ho, hb⟩
  obtain ⟨a4, c4, rfl, hr4, -⟩ := OD.row ho
  have HW := Lib.hid hr4
  replace HB := Lib.hid (bel_tr HB.out hb)
  replace HX := Lib.hid (HX.out.keep hb)
  replace HO := Lib.hid (HO.out.keep hb)
  replace HG := Lib.hid (HG.out.keep hb)
  clear hb ho hr4
  have HUn := Lib.hid (union_ref (O.map (·.1)) G a4 aG c4 cG w4 HW.out HG.out (by rw [List.length_map]; have := HOl.out; omega) (by have := HGl.out; omega))
  rw [HUe.out] at HUn
  rw [List.length_map] at HUn ⊢
  clear HW
  go_wp2_with fail
  refine HUn.out.mono ?_
  rintro e w5 ⟨v5, rfl, ho, hb⟩
  obtain ⟨a5, c5, rfl, hr5, -⟩ := OD.row ho
  have HW := Lib.hid hr5
  replace HB := Lib.hid (bel_tr HB.out hb)
  replace HX := Lib.hid (HX.out.keep hb)
  replace HO := Lib.hid (HO.out.keep hb)
  replace HG := Lib.hid (HG.out.keep hb)
  clear hb ho hr5 HUn HUe
  rw [List.length_map]
  go_wp2_with fail
  refine (HNl.out _ HX.out).mono ?_
  rintro e w6 ⟨v6, rfl, ho, hb⟩
  obtain ⟨a6, c6, rfl, hr6, -⟩ := OD.row ho
  have HW2 := Lib.hid hr6
  replace HB := Lib.hid (bel_tr HB.out hb)
  replace HX := Lib.hid (HX.out.keep hb)
  replace HO := Lib.hid (HO.out.keep hb)
  replace HG := Lib.hid (HG.out.keep hb)
  replace HW := Lib.hid (HW.out.keep hb)
  clear hb ho hr6 HNl
  have HSm := Lib.hid (sameD_true (l.map (·.1)) a5 a6 c5 c6 w6 HW.out HW2.out (by rw [List.length_map]; have := HLe.out; omega))
  rw [List.length_map] at HSm ⊢
  clear HW HW2
  go_wp2_with fail
  refine (HSm.out).mono ?_
  rintro e w23 ⟨rfl, hb⟩
  replace HB := Lib.hid (bel_tr HB.out hb)
  replace HX := Lib.hid (HX.out.keep hb)
  replace HO := Lib.hid (HO.out.keep hb)
  replace HG := Lib.hid (HG.out.keep hb)
  clear hb
  clear HSm hln HLn
  have hol : (O.length : Int) ≤ 40 := by have := HOl.out; omega
  go_wp2_with fail
  go_loopw [7, 8, 9, 10, 11, 12, 13, 15, 16, 17, 65] (fun _ _ _ _ _ _ _ _ _ _ i wr => ∃ k : Nat, k ≤ O.length ∧ i = .int .i64 (k : Int) ∧ Hid (Below w23.heap.size w23 wr)) (fun _ _ _ _ _ _ _ _ _ _ i _ => O.length - (intOf i).toNat)
  case atStart => exact ⟨0, Nat.zero_le _, rfl, Below.refl _ _⟩
  case round =>
    obtain ⟨k, hk, rfl, HZ⟩ := hrel
    by_cases hlt : k < O.length
    · have hi0 : (k : Int) < (O.length : Int) := by omega
      have hk0 : (0 : Int) ≤ (k : Int) := by omega
      have hkb : (k : Int) ≤ 40 := by omega
      obtain ⟨C, B, p, hq0⟩ := HQ.out k hlt
      obtain ⟨b1, o1, e1, hna⟩ := na_of (HO.out.keep HZ.out) k hlt
      subst e1
      obtain ⟨q, hq⟩ : ∃ q, q = O[k] := ⟨_, rfl⟩
      rw [← hq] at hna hq0
      have HH := Lib.hid hq0
      clear hq hq0
      have hb2 := bel_box wr (.cells (nc q) 35)
      have HNb := Lib.hid (Nb.new wr q)
      have HZ2 := Lib.hid (bel_tr HZ.out hb2)
      clear hb2
      obtain ⟨n0, n1, n2, n3, n4, n5⟩ := hna
      go_wp2_with fail
      clear n0 n1 n2 n3 n4 n5
      have HX1 := Lib.hid (HX.out.keep HZ2.out)
      have HO1 := Lib.hid (HO.out.keep HZ2.out)
      have HG1 := Lib.hid (HG.out.keep HZ2.out)
      generalize wr.alloc (.cells (nc q) 35) = w50 at *
      generalize wr.heap.size = g at *
      have hb := (Below.refl w50.heap.size w50).drew
      replace HZ2 := Lib.hid (bel_tr HZ2.out hb)
      replace HX1 := Lib.hid (HX1.out.keep hb)
      replace HO1 := Lib.hid (HO1.out.keep hb)
      replace HG1 := Lib.hid (HG1.out.keep hb)
      replace HNb := Lib.hid (HNb.out.keep hb)
      clear hb
      have HK : Hid (Kh w50.drew g q w50.drew) := ⟨Below.refl _ _, HNb.out⟩
      have hcut := cut_loN (some (⟨b1, o1, none⟩ : Addr)) O.length cO k (by have := HCo.out; omega)
      have HHs := Lib.hid (fun w h => has_ref G q.1 aG cG w h (by have := HGl.out; omega))
      rw [decide_eq_false HH.out.lost] at HHs
      have HRo := Lib.hid (fun w => root_ref q.2.1 w)
      have HUp := Lib.hid HH.out.up
      clear HNb
      refine Sch.wp_region_tn (Kh w50.drew g q) (.val 0 (.val 1 (.val 2 (.one 3 (.val 4 (.val 5 (.val 6 (.one 7 (.val 8 (.val 9 (.val 10 (.val 11 (.val 12 (.val 14 (.val 15 (.one 13 (.one 16 (.val 17 (.val 18 (.val 19 .done)))))))))))))))))))) (by kernel_rfl) (by kernel_rfl) HK.out ?_
      repeat (first
        | (refine Sch.tn_q rfl rfl rfl (fun K hK => ?_); go_big_quiet_op; (first | refine hK _ ?_ | refine ⟨_, fun _ _ => rfl, hK _ ?_⟩); clear hK K)
        | (refine Sch.tn_chk _ _ _ rfl rfl rfl rfl rfl ?_; simp only [Act.put, List.setIfInBounds_toArray, List.set_cons_zero, List.set_cons_succ])
        | (refine Sch.tn_load _ _ _ _ _ rfl rfl rfl rfl (by first | exact Kh.l0 | exact Kh.l2) rfl ?_; simp only [Act.put, List.setIfInBounds_toArray, List.set_cons_zero, List.set_cons_succ]))
      generalize w50.drew = w51 at *
      refine Sch.tn_e rfl rfl (fun K hK => ?_)
      go_wp2_with fail
      refine (HHs.out _ HG1.out).mono ?_
      rintro e w101 ⟨rfl, hb⟩
      replace HZ2 := Lib.hid (bel_tr HZ2.out hb)
      replace HX1 := Lib.hid (HX1.out.keep hb)
      replace HO1 := Lib.hid (HO1.out.keep hb)
      replace HK := Lib.hid (HK.out.keep hb)
      clear hb
      clear HHs HG1
      refine hK _ _ HK.out ?_
      clear hK K
      repeat (first
        | (refine Sch.tn_q rfl rfl rfl (fun K hK => ?_); go_big_quiet_op; (first | refine hK _ ?_ | refine ⟨_, fun _ _ => rfl, hK _ ?_⟩); clear hK K)
        | (refine Sch.tn_chk _ _ _ rfl rfl rfl rfl rfl ?_; simp only [Act.put, List.setIfInBounds_toArray, List.set_cons_zero, List.set_cons_succ])
        | (refine Sch.tn_load _ _ _ _ _ rfl rfl rfl rfl (by first | exact Kh.l0 | exact Kh.l2) rfl ?_; simp only [Act.put, List.setIfInBounds_toArray, List.set_cons_zero, List.set_cons_succ]))
      refine Sch.tn_e rfl rfl (fun K hK => ?_)
      go_wp2_with fail
      refine (HRo.out _).mono ?_
      rintro e w102 ⟨rfl, hb⟩
      replace HZ2 := Lib.hid (bel_tr HZ2.out hb)
      replace HX1 := Lib.hid (HX1.out.keep hb)
      replace HO1 := Lib.hid (HO1.out.keep hb)
      replace HK := Lib.hid (HK.out.keep hb)
      clear hb
      clear HRo
      refine hK _ _ HK.out ?_
      clear hK K
      rcases hrr : rootR q.2.1 with _ | _
      · have hup := HUp.out hrr
        have HHt := Lib.hid (fun a c w h => has_ref ((O.take k).map (·.1)) q.2.1 a c w h (by have := HOl.out; rw [List.length_map, List.length_take]; omega))
        rw [decide_eq_true hup] at HHt
        have HNt := Lib.hid (fun a c w h => names_any (O.take k) a c w h (by have := HOl.out; rw [List.length_take]; omega))
        have HLt : Hid ((O.take k).length = k) := by show _ = _; rw [List.length_take]; omega
        have HLm : Hid (((O.take k).map (·.1)).length = k) := by show _ = _; rw [List.length_map, List.length_take]; omega
        rw [HLt.out] at HNt
        rw [HLm.out] at HHt
        clear hup hrr HUp
        repeat (first
          | (refine Sch.tn_q rfl rfl rfl (fun K hK => ?_); go_big_quiet_op; (first | refine hK _ ?_ | refine ⟨_, fun _ _ => rfl, hK _ ?_⟩); clear hK K)
          | (refine Sch.tn_chk _ _ _ rfl rfl rfl rfl rfl ?_; simp only [Act.put, List.setIfInBounds_toArray, List.set_cons_zero, List.set_cons_succ])
          | (refine Sch.tn_load _ _ _ _ _ rfl rfl rfl rfl (by first | exact Kh.l0 | exact Kh.l2) rfl ?_; simp only [Act.put, List.setIfInBounds_toArray, List.set_cons_zero, List.set_cons_succ]))
        refine Sch.tn_e rfl rfl (fun K hK => ?_)
        go_wp2_with fail
        refine (HNt.out _ _ _ (HO1.out.take k)).mono ?_
        rintro e w55 ⟨v55, rfl, ho, hb⟩
        obtain ⟨a55, c55, hv55, hr55, -⟩ := OD.row ho
        rw [HLm.out] at hv55
        subst hv55
        have HY := Lib.hid hr55
        replace HZ2 := Lib.hid (bel_tr HZ2.out hb)
        replace HX1 := Lib.hid (HX1.out.keep hb)
        replace HO1 := Lib.hid (HO1.out.keep hb)
        replace HK := Lib.hid (HK.out.keep hb)
        clear hb ho hr55 HNt
        refine hK _ _ HK.out ?_
        clear hK K
        refine Sch.tn_e rfl rfl (fun K hK => ?_)
        go_wp2_with fail
        refine (HHt.out _ _ _ HY.out).mono ?_
        rintro e w103 ⟨rfl, hb⟩
        replace HZ2 := Lib.hid (bel_tr HZ2.out hb)
        replace HX1 := Lib.hid (HX1.out.keep hb)
        replace HO1 := Lib.hid (HO1.out.keep hb)
        replace HK := Lib.hid (HK.out.keep hb)
        clear hb
        clear HHt HY HLt HLm
        refine hK _ _ HK.out ?_
        clear hK K
        repeat (first
          | (refine Sch.tn_q rfl rfl rfl (fun K hK => ?_); go_big_quiet_op; (first | refine hK _ ?_ | refine ⟨_, fun _ _ => rfl, hK _ ?_⟩); clear hK K)
          | (refine Sch.tn_chk _ _ _ rfl rfl rfl rfl rfl ?_; simp only [Act.put, List.setIfInBounds_toArray, List.set_cons_zero, List.set_cons_succ])
          | (refine Sch.tn_load _ _ _ _ _ rfl rfl rfl rfl (by first | exact Kh.l0 | exact Kh.l2) rfl ?_; simp only [Act.put, List.setIfInBounds_toArray, List.set_cons_zero, List.set_cons_succ]))
        refine Sch.tn_n ?_
        clear hcut
        obtain ⟨m0, m1, m2, m3, m4, m5⟩ := HK.out.2
        have HCc := Lib.hid (HCh.out q.1 _ HX1.out)
        rw [HH.out.ch] at HCc
        go_wp2_with fail
        refine HCc.out.mono ?_
        rintro e w60 ⟨v60, rfl, ho, hb⟩
        obtain ⟨a60, c60, rfl, hr60, -⟩ := ON.row ho
        have HC1 := Lib.hid hr60
        replace HZ2 := Lib.hid (bel_tr HZ2.out hb)
        replace HX1 := Lib.hid (HX1.out.keep hb)
        replace HO1 := Lib.hid (HO1.out.keep hb)
        replace HK := Lib.hid (HK.out.keep hb)
        clear hb ho hr60 HCc m0 m1 m2 m3 m4 m5
        rcases C with _ | ⟨cc, ct⟩
        · rw [List.length_nil]
          clear HC1
          go_wp2_with fail
          have hb := (Below.refl w60.heap.size w60).drew
          replace HZ2 := Lib.hid (bel_tr HZ2.out hb)
          replace HX1 := Lib.hid (HX1.out.keep hb)
          replace HO1 := Lib.hid (HO1.out.keep hb)
          replace HK := Lib.hid (HK.out.keep hb)
          clear hb
          refine Sch.wp_region_tn (fun _ => True) (.val 0 (.val 1 (.val 2 (.val 3 (.val 4 (.val 5 (.val 6 (.val 7 (.val 8 (.val 9 (.val 10 (.val 11 (.val 12 (.val 13 (.val 14 (.val 15 (.val 16 (.val 17 (.val 18 (.val 19 (.val 20 (.val 21 (.val 22 (.val 23 (.val 24 .done))))))))))))))))))))))))) (by kernel_rfl) (by kernel_rfl) trivial ?_
          repeat (first
            | (refine Sch.tn_q rfl rfl rfl (fun K hK => ?_); go_big_quiet_op; (first | refine hK _ ?_ | refine ⟨_, fun _ _ => rfl, hK _ ?_⟩); clear hK K)
            | (refine Sch.tn_chk _ _ _ rfl rfl rfl rfl rfl ?_; simp only [Act.put, List.setIfInBounds_toArray, List.set_cons_zero, List.set_cons_succ]))
          repeat (first
            | (refine Sch.tn_q rfl rfl rfl (fun K hK => ?_); go_big_quiet_op; (first | refine hK _ ?_ | refine ⟨_, fun _ _ => rfl, hK _ ?_⟩); clear hK K)
            | (refine Sch.tn_chk _ _ _ rfl rfl rfl rfl rfl ?_; simp only [Act.put, List.setIfInBounds_toArray, List.set_cons_zero, List.set_cons_succ])
            | (refine Sch.tn_s _ rfl rfl rfl ?_; simp only [Act.put, List.setIfInBounds_toArray, List.set_cons_zero, List.set_cons_succ])
            | (refine Sch.tn_se _ rfl rfl rfl ?_; simp only [Act.put, List.setIfInBounds_toArray, List.set_cons_zero, List.set_cons_succ]))
          refine Sch.tn_n ?_
          generalize w60.drew = w61 at *
          obtain ⟨m0, m1, m2, m3, m4, m5⟩ := HK.out.2
          have HBc := Lib.hid (HBl.out q.1 _ HX1.out)
          rw [HH.out.be] at HBc
          go_wp2_with fail
          refine HBc.out.mono ?_
          rintro e w70 ⟨v70, rfl, ho, hb⟩
          obtain ⟨a70, c70, rfl, hr70, -⟩ := OD.row ho
          have HB1 := Lib.hid hr70
          replace HZ2 := Lib.hid (bel_tr HZ2.out hb)
          replace HX1 := Lib.hid (HX1.out.keep hb)
          replace HO1 := Lib.hid (HO1.out.keep hb)
          replace HK := Lib.hid (HK.out.keep hb)
          clear hb ho hr70 HBc m0 m1 m2 m3 m4 m5
          obtain ⟨nB, hnB⟩ : ∃ nB, nB = B.length := ⟨_, rfl⟩
          have hbl : k + 1 + nB ≤ O.length := by rw [hnB]; exact HH.out.bl
          have hbn : B = ((O.drop (k + 1)).take nB).map (·.1) := by rw [hnB]; exact HH.out.bn
          have hd16 : decide ((O.length : Int) < (k : Int) + 1 + (nB : Int)) = false := decide_eq_false (by omega)
          have hcutm := cut_midH (some (⟨b1, o1, none⟩ : Addr)) O.length cO (k + 1) (k + 1 + nB) (by omega) hbl HCo.out
          rw [show k + 1 + nB - (k + 1) = nB by omega, show ((k + 1 : Nat) : Int) = (k : Int) + 1 by omega, show ((k + 1 + nB : Nat) : Int) = (k : Int) + 1 + (nB : Int) by omega] at hcutm
          have HXr := Lib.hid ((offN_row HO1.out cO (k + 1) HCo.out (by omega)).take nB)
          have hxl : ((O.drop (k + 1)).take nB).length = nB := by rw [List.length_take, List.length_drop]; omega
          have hnx := names_any ((O.drop (k + 1)).take nB) (offN (some (⟨b1, o1, none⟩ : Addr)) cO (k + 1)) (cO - (k + 1)) _ HXr.out (by rw [hxl]; omega)
          rw [hxl, ← hbn] at hnx
          have HNx := Lib.hid hnx
          have hnb40 : (nB : Int) ≤ 40 := by omega
          have HnB := Lib.hid hnB
          rw [← hnB]
          clear hnx hxl HXr hbn hbl hnB
          generalize offN (some (⟨b1, o1, none⟩ : Addr)) cO (k + 1) = aX at *
          generalize cO - (k + 1) = cX at *
          go_wp2_with fail
          refine HNx.out.mono ?_
          rintro e w71 ⟨v71, rfl, ho, hb⟩
          obtain ⟨a71, c71, hv71, hr71, -⟩ := OD.row ho
          rw [← HnB.out] at hv71
          subst hv71
          have HY := Lib.hid hr71
          replace HZ2 := Lib.hid (bel_tr HZ2.out hb)
          replace HX1 := Lib.hid (HX1.out.keep hb)
          replace HO1 := Lib.hid (HO1.out.keep hb)
          replace HK := Lib.hid (HK.out.keep hb)
          replace HB1 := Lib.hid (HB1.out.keep hb)
          clear hb ho hr71 HNx
          have hsm := sameD_true B a70 a71 c70 c71 w71 HB1.out HY.out (by have := HnB.out; omega)
          rw [← HnB.out] at hsm
          have HSb := Lib.hid hsm
          clear hsm HB1 HY HnB
          go_wp2_with fail
          refine (HSb.out).mono ?_
          rintro e w104 ⟨rfl, hb⟩
          replace HZ2 := Lib.hid (bel_tr HZ2.out hb)
          replace HX1 := Lib.hid (HX1.out.keep hb)
          replace HO1 := Lib.hid (HO1.out.keep hb)
          replace HK := Lib.hid (HK.out.keep hb)
          clear hb
          clear HSb hcutm hd16 hnb40
          obtain ⟨m0, m1, m2, m3, m4, m5⟩ := HK.out.2
          have HPc := Lib.hid (HPt.out q.1 _ HX1.out)
          rw [HH.out.pa] at HPc
          go_wp2_with fail
          refine HPc.out.mono ?_
          rintro e w80 ⟨v80, rfl, ho, hb⟩
          obtain ⟨a80, c80, rfl, hr80, -⟩ := OD.row ho
          have HP := Lib.hid hr80
          replace HZ2 := Lib.hid (bel_tr HZ2.out hb)
          replace HX1 := Lib.hid (HX1.out.keep hb)
          replace HO1 := Lib.hid (HO1.out.keep hb)
          replace HK := Lib.hid (HK.out.keep hb)
          clear hb ho hr80 HPc m0 m1 m2 m3 m4 m5
          obtain ⟨np, hnp⟩ : ∃ np, np = p.length := ⟨_, rfl⟩
          have hnp0 : 0 < np := by rw [hnp]; exact HH.out.p0
          have hnp40 : (np : Int) ≤ 40 := by have := HH.out.pl; omega
          have hnp1 : (1 : Int) ≤ (np : Int) := by omega
          have hd19 : decide ((np : Int) = 0) = false := decide_eq_false (by omega)
          have hd19b : ((np : Int) == 0) = false := beq_false_of_ne (by omega)
          obtain ⟨b8, o8, e8, x0, x1⟩ := HP.out.get (Below.refl _ _) (np - 1) (by omega)
          subst e8
          have hla : ∀ h : np - 1 < p.length, p[np - 1] = q.1 := by rw [hnp]; exact HH.out.last
          rw [hla] at x0 x1
          have hix8 := ix_dot b8 o8 np c80 (np - 1) ((np : Int) - 1) (by omega) (by omega)
          have hneq := neqD_no (p := q.1) (q := q.1) rfl
          have HKx : Hid (K19 b8 (o8 + (np - 1) * 2) g q w80) := ⟨⟨x0, x1⟩, HK.out.2⟩
          have HNp := Lib.hid hnp
          rw [← hnp]
          clear hla x0 x1 hnp hnp0
          go_wp2_with fail
          have hb := (Below.refl w80.heap.size w80).drew
          replace HZ2 := Lib.hid (bel_tr HZ2.out hb)
          replace HX1 := Lib.hid (HX1.out.keep hb)
          replace HO1 := Lib.hid (HO1.out.keep hb)
          replace HK := Lib.hid (HK.out.keep hb)
          replace HP := Lib.hid (HP.out.keep hb)
          have HKy : Hid (K19 b8 (o8 + (np - 1) * 2) g q w80.drew) := ⟨⟨(hb.cell (p := ⟨b8, _, none⟩) (lt_of_cell HKx.out.1.1)).trans HKx.out.1.1, (hb.cell (p := ⟨b8, _, none⟩) (lt_of_cell HKx.out.1.2)).trans HKx.out.1.2⟩, HK.out.2⟩
          clear hb HKx
          refine Sch.wp_region_tn (K19 b8 (o8 + (np - 1) * 2) g q) (.val 0 (.val 1 (.val 2 (.val 3 (.val 4 (.val 5 (.val 6 (.val 7 (.val 8 (.val 9 (.val 10 (.val 11 (.val 12 (.val 13 (.val 14 (.val 15 (.val 16 (.val 17 .done)))))))))))))))))) (by kernel_rfl) (by kernel_rfl) HKy.out ?_
          repeat (first
            | (refine Sch.tn_q rfl rfl rfl (fun K hK => ?_); go_big_quiet_op; (first | refine hK _ ?_ | refine ⟨_, fun _ _ => rfl, hK _ ?_⟩); clear hK K)
            | (refine Sch.tn_chk _ _ _ rfl rfl rfl rfl rfl ?_; simp only [Act.put, List.setIfInBounds_toArray, List.set_cons_zero, List.set_cons_succ])
            | (refine Sch.tn_load _ _ _ _ _ rfl rfl rfl rfl (by first | exact K19.l0 | exact K19.l1) rfl ?_; simp only [Act.put, List.setIfInBounds_toArray, List.set_cons_zero, List.set_cons_succ]))
          try (first | simp only [hd19b] | simp only [hd19])
          repeat (first
            | (refine Sch.tn_q rfl rfl rfl (fun K hK => ?_); go_big_quiet_op; (first | refine hK _ ?_ | refine ⟨_, fun _ _ => rfl, hK _ ?_⟩); clear hK K)
            | (refine Sch.tn_chk _ _ _ rfl rfl rfl rfl rfl ?_; simp only [Act.put, List.setIfInBounds_toArray, List.set_cons_zero, List.set_cons_succ])
            | (refine Sch.tn_load _ _ _ _ _ rfl rfl rfl rfl (by first | exact K19.l0 | exact K19.l1) rfl ?_; simp only [Act.put, List.setIfInBounds_toArray, List.set_cons_zero, List.set_cons_succ]))
          refine Sch.tn_n ?_
          generalize w80.drew = w81 at *
          clear hix8 hneq HKy hd19 hd19b hnp1
          have HU0 : Hid (Bd (w81.alloc (.cells #[.int .i64 0, .int .i64 0] 24)) w81.heap.size (upP p 0)) := by show Bd _ _ _; rw [up_zero]; exact bd_new w81 (0, 0)
          have HY0 := Lib.hid (bel_box w81 (.cells #[.int .i64 0, .int .i64 0] 24))
          go_wp2_with fail
          go_loopw [15, 16, 17, 184] (fun _ _ _ i wx => ∃ j : Nat, j ≤ np ∧ i = .int .i64 (j : Int) ∧ Hid (Below w81.heap.size w81 wx) ∧ Hid (Bd wx w81.heap.size (upP p j))) (fun _ _ _ i _ => np - (intOf i).toNat)
          case atStart => exact ⟨0, Nat.zero_le _, rfl, HY0, HU0⟩
          case round =>
            clear HY0 HU0
            obtain ⟨j, hj, rfl, HY, HU⟩ := hrel
            by_cases hjl : j < np
            · have hji : (j : Int) < (np : Int) := by omega
              have hjb : (j : Int) ≤ 40 := by omega
              have hjp : j < p.length := by have := HNp.out; omega
              obtain ⟨x, f1, f2, f3⟩ := HH.out.fd j hjp
              have HUs : Hid (upP p (j + 1) = p[j]) := up_succ hjp
              obtain ⟨y0, y1⟩ := rowD_at HP.out HY.out j hjp
              obtain ⟨d, hd⟩ : ∃ d, d = p[j] := ⟨_, rfl⟩
              rw [← hd] at f1 f2 y0 y1 HUs
              have hfc := fun w h => HFd.out d w f2 h
              rw [f1] at hfc
              have HFc := Lib.hid hfc
              have hix := ix_dot b8 o8 np c80 j (j : Int) rfl hjl
              generalize upP p j = u at *
              have hneq := neqD_no (p := x.2.1) (q := u) f3
              have hb := bel_box wr (.cells #[.int .i64 d.1, .int .i64 d.2] 24)
              have HD15 := Lib.hid (bd_new wr d)
              have HY2 := Lib.hid (bel_tr HY.out hb)
              have HU2 := Lib.hid (HU.out.keep hb)
              clear hb hd f1 f2 f3 hfc hjp
              have c0 := HD15.out.c0
              have c1 := HD15.out.c1
              go_wp2_with fail
              generalize wr.alloc (.cells #[.int .i64 d.1, .int .i64 d.2] 24) = w90 at *
              generalize wr.heap.size = g15 at *
              refine (HFc.out _ (HX1.out.keep HY2.out)).mono ?_
              rintro e w91 ⟨rfl, hb⟩
              have hb2 := bel_tr hb (bel_box w91 (.cells (nc x) 35))
              have HN16 := Lib.hid (Nb.new w91 x)
              replace HD15 := Lib.hid (HD15.out.keep hb2)
              replace HU2 := Lib.hid (HU2.out.keep hb2)
              replace HY2 := Lib.hid (bel_tr HY2.out hb2)
              clear hb hb2 HFc c0 c1 y0 y1 hix
              have c0 := HD15.out.c0
              have c1 := HD15.out.c1
              have u0 := HU2.out.c0
              have u1 := HU2.out.c1
              have f0 := bd_free HU2.out 0
              have f1 := bd_free HU2.out 1
              have HU3 := Lib.hid (bd_set HU2.out d)
              have HY3 := Lib.hid (belD HY2.out (Nat.le_refl _) d)
              obtain ⟨n0, n1, n2, n3, n4, n5⟩ := HN16.out
              go_wp2_with fail
              refine ⟨⟨j + 1, by omega, by go_num, HY3, by show Bd _ _ _; rw [HUs.out]; exact HU3.out⟩, ?_⟩
              simp [intOf]; omega
            · obtain rfl : j = np := by omega
              have hend : ¬ (j : Int) < (j : Int) := by omega
              have HZ3 := Lib.hid (bel_tr HZ2.out HY.out)
              go_wp2_with fail
              refine ⟨⟨k + 1, by omega, by go_num, HZ3⟩, ?_⟩
              simp [intOf]; omega
        · obtain ⟨nC, hnC⟩ : ∃ nC, nC = (cc :: ct).length := ⟨_, rfl⟩
          obtain ⟨hk1, hO1⟩ := HH.out.first cc ct rfl
          have hnC0 : 0 < nC := by rw [hnC]; simp
          have hnCi : (0 : Int) < (nC : Int) := by omega
          have hnCd : decide ((0 : Int) < (nC : Int)) = true := decide_eq_true hnCi
          have hk1d : decide ((O.length : Int) ≤ (k : Int) + 1) = false := decide_eq_false (by omega)
          obtain ⟨b9, o9, e9, hn9⟩ := na_of HC1.out 0 (by simp)
          obtain ⟨b2, o2, e2, hn2⟩ := na_of HO1.out (k + 1) hk1
          cases e2
          rw [hO1] at hn2
          subst e9
          rw [← hnC]
          have hix1 := ixN b1 o1 O.length cO (k + 1) ((k : Int) + 1) (by omega) hk1
          have hix9 := ixN b9 o9 nC c60 0 0 rfl hnC0
          have hneq := neqN_no cc
          have HK3 : Hid (K13 b1 (o1 + (k + 1) * 6) b9 (o9 + 0 * 6) cc w60) := ⟨hn2, hn9⟩
          have hnCe : decide (0 < nC) = true := decide_eq_true hnC0
          have hk1n : ¬ O.length ≤ k + 1 := by omega
          have hk1e : decide (O.length ≤ k + 1) = false := decide_eq_false hk1n
          clear HC1 hn2 hn9 hnC hO1
          go_wp2_with fail
          have hb := (Below.refl w60.heap.size w60).drew
          replace HZ2 := Lib.hid (bel_tr HZ2.out hb)
          replace HX1 := Lib.hid (HX1.out.keep hb)
          replace HO1 := Lib.hid (HO1.out.keep hb)
          replace HK := Lib.hid (HK.out.keep hb)
          have HK4 : Hid (K13 b1 (o1 + (k + 1) * 6) b9 (o9 + 0 * 6) cc w60.drew) := ⟨HK3.out.1.keep hb, HK3.out.2.keep hb⟩
          clear hb HK3
          refine Sch.wp_region_tn (K13 b1 (o1 + (k + 1) * 6) b9 (o9 + 0 * 6) cc) (.val 0 (.val 1 (.val 2 (.val 3 (.val 4 (.val 5 (.val 6 (.val 7 (.val 8 (.val 9 (.val 10 (.val 11 (.val 12 (.val 13 (.val 14 (.val 15 (.val 16 (.val 17 (.val 18 (.val 19 (.val 20 (.val 21 (.val 22 (.val 23 (.val 24 .done))))))))))))))))))))))))) (by kernel_rfl) (by kernel_rfl) HK4.out ?_
          repeat (first
            | (refine Sch.tn_q rfl rfl rfl (fun K hK => ?_); go_big_quiet_op; (first | refine hK _ ?_ | refine ⟨_, fun _ _ => rfl, hK _ ?_⟩); clear hK K)
            | (refine Sch.tn_chk _ _ _ rfl rfl rfl rfl rfl ?_; simp only [Act.put, List.setIfInBounds_toArray, List.set_cons_zero, List.set_cons_succ])
            | (refine Sch.tn_load _ _ _ _ _ rfl rfl rfl rfl (by first | exact K13.l0 | exact K13.l1) rfl ?_; simp only [Act.put, List.setIfInBounds_toArray, List.set_cons_zero, List.set_cons_succ]))
          try simp only [hnCd, hnCe]
          repeat (first
            | (refine Sch.tn_q rfl rfl rfl (fun K hK => ?_); go_big_quiet_op; (first | refine hK _ ?_ | refine ⟨_, fun _ _ => rfl, hK _ ?_⟩); clear hK K)
            | (refine Sch.tn_chk _ _ _ rfl rfl rfl rfl rfl ?_; simp only [Act.put, List.setIfInBounds_toArray, List.set_cons_zero, List.set_cons_succ])
            | (refine Sch.tn_load _ _ _ _ _ rfl rfl rfl rfl (by first | exact K13.l0 | exact K13.l1) rfl ?_; simp only [Act.put, List.setIfInBounds_toArray, List.set_cons_zero, List.set_cons_succ]))
          try simp only [hk1d, hk1e]
          repeat (first
            | (refine Sch.tn_q rfl rfl rfl (fun K hK => ?_); go_big_quiet_op; (first | refine hK _ ?_ | refine ⟨_, fun _ _ => rfl, hK _ ?_⟩); clear hK K)
            | (refine Sch.tn_chk _ _ _ rfl rfl rfl rfl rfl ?_; simp only [Act.put, List.setIfInBounds_toArray, List.set_cons_zero, List.set_cons_succ])
            | (refine Sch.tn_load _ _ _ _ _ rfl rfl rfl rfl (by first | exact K13.l0 | exact K13.l1) rfl ?_; simp only [Act.put, List.setIfInBounds_toArray, List.set_cons_zero, List.set_cons_succ]))
          refine Sch.tn_n ?_
          generalize w60.drew = w61 at *
          clear hix1 hix9 hneq HK4 hnCi hnCd hk1d hnCe hk1n hk1e hk1 hnC0
          obtain ⟨m0, m1, m2, m3, m4, m5⟩ := HK.out.2
          have HBc := Lib.hid (HBl.out q.1 _ HX1.out)
          rw [HH.out.be] at HBc
          go_wp2_with fail
          refine HBc.out.mono ?_
          rintro e w70 ⟨v70, rfl, ho, hb⟩
          obtain ⟨a70, c70, rfl, hr70, -⟩ := OD.row ho
          have HB1 := Lib.hid hr70
          replace HZ2 := Lib.hid (bel_tr HZ2.out hb)
          replace HX1 := Lib.hid (HX1.out.keep hb)
          replace HO1 := Lib.hid (HO1.out.keep hb)
          replace HK := Lib.hid (HK.out.keep hb)
          clear hb ho hr70 HBc m0 m1 m2 m3 m4 m5
          obtain ⟨nB, hnB⟩ : ∃ nB, nB = B.length := ⟨_, rfl⟩
          have hbl : k + 1 + nB ≤ O.length := by rw [hnB]; exact HH.out.bl
          have hbn : B = ((O.drop (k + 1)).take nB).map (·.1) := by rw [hnB]; exact HH.out.bn
          have hd16 : decide ((O.length : Int) < (k : Int) + 1 + (nB : Int)) = false := decide_eq_false (by omega)
          have hcutm := cut_midH (some (⟨b1, o1, none⟩ : Addr)) O.length cO (k + 1) (k + 1 + nB) (by omega) hbl HCo.out
          rw [show k + 1 + nB - (k + 1) = nB by omega, show ((k + 1 : Nat) : Int) = (k : Int) + 1 by omega, show ((k + 1 + nB : Nat) : Int) = (k : Int) + 1 + (nB : Int) by omega] at hcutm
          have HXr := Lib.hid ((offN_row HO1.out cO (k + 1) HCo.out (by omega)).take nB)
          have hxl : ((O.drop (k + 1)).take nB).length = nB := by rw [List.length_take, List.length_drop]; omega
          have hnx := names_any ((O.drop (k + 1)).take nB) (offN (some (⟨b1, o1, none⟩ : Addr)) cO (k + 1)) (cO - (k + 1)) _ HXr.out (by rw [hxl]; omega)
          rw [hxl, ← hbn] at hnx
          have HNx := Lib.hid hnx
          have hnb40 : (nB : Int) ≤ 40 := by omega
          have HnB := Lib.hid hnB
          rw [← hnB]
          clear hnx hxl HXr hbn hbl hnB
          generalize offN (some (⟨b1, o1, none⟩ : Addr)) cO (k + 1) = aX at *
          generalize cO - (k + 1) = cX at *
          go_wp2_with fail
          refine HNx.out.mono ?_
          rintro e w71 ⟨v71, rfl, ho, hb⟩
          obtain ⟨a71, c71, hv71, hr71, -⟩ := OD.row ho
          rw [← HnB.out] at hv71
          subst hv71
          have HY := Lib.hid hr71
          replace HZ2 := Lib.hid (bel_tr HZ2.out hb)
          replace HX1 := Lib.hid (HX1.out.keep hb)
          replace HO1 := Lib.hid (HO1.out.keep hb)
          replace HK := Lib.hid (HK.out.keep hb)
          replace HB1 := Lib.hid (HB1.out.keep hb)
          clear hb ho hr71 HNx
          have hsm := sameD_true B a70 a71 c70 c71 w71 HB1.out HY.out (by have := HnB.out; omega)
          rw [← HnB.out] at hsm
          have HSb := Lib.hid hsm
          clear hsm HB1 HY HnB
          go_wp2_with fail
          refine (HSb.out).mono ?_
          rintro e w105 ⟨rfl, hb⟩
          replace HZ2 := Lib.hid (bel_tr HZ2.out hb)
          replace HX1 := Lib.hid (HX1.out.keep hb)
          replace HO1 := Lib.hid (HO1.out.keep hb)
          replace HK := Lib.hid (HK.out.keep hb)
          clear hb
          clear HSb hcutm hd16 hnb40
          obtain ⟨m0, m1, m2, m3, m4, m5⟩ := HK.out.2
          have HPc := Lib.hid (HPt.out q.1 _ HX1.out)
          rw [HH.out.pa] at HPc
          go_wp2_with fail
          refine HPc.out.mono ?_
          rintro e w80 ⟨v80, rfl, ho, hb⟩
          obtain ⟨a80, c80, rfl, hr80, -⟩ := OD.row ho
          have HP := Lib.hid hr80
          replace HZ2 := Lib.hid (bel_tr HZ2.out hb)
          replace HX1 := Lib.hid (HX1.out.keep hb)
          replace HO1 := Lib.hid (HO1.out.keep hb)
          replace HK := Lib.hid (HK.out.keep hb)
          clear hb ho hr80 HPc m0 m1 m2 m3 m4 m5
          obtain ⟨np, hnp⟩ : ∃ np, np = p.length := ⟨_, rfl⟩
          have hnp0 : 0 < np := by rw [hnp]; exact HH.out.p0
          have hnp40 : (np : Int) ≤ 40 := by have := HH.out.pl; omega
          have hnp1 : (1 : Int) ≤ (np : Int) := by omega
          have hd19 : decide ((np : Int) = 0) = false := decide_eq_false (by omega)
          have hd19b : ((np : Int) == 0) = false := beq_false_of_ne (by omega)
          obtain ⟨b8, o8, e8, x0, x1⟩ := HP.out.get (Below.refl _ _) (np - 1) (by omega)
          subst e8
          have hla : ∀ h : np - 1 < p.length, p[np - 1] = q.1 := by rw [hnp]; exact HH.out.last
          rw [hla] at x0 x1
          have hix8 := ix_dot b8 o8 np c80 (np - 1) ((np : Int) - 1) (by omega) (by omega)
          have hneq := neqD_no (p := q.1) (q := q.1) rfl
          have HKx : Hid (K19 b8 (o8 + (np - 1) * 2) g q w80) := ⟨⟨x0, x1⟩, HK.out.2⟩
          have HNp := Lib.hid hnp
          rw [← hnp]
          clear hla x0 x1 hnp hnp0
          go_wp2_with fail
          have hb := (Below.refl w80.heap.size w80).drew
          replace HZ2 := Lib.hid (bel_tr HZ2.out hb)
          replace HX1 := Lib.hid (HX1.out.keep hb)
          replace HO1 := Lib.hid (HO1.out.keep hb)
          replace HK := Lib.hid (HK.out.keep hb)
          replace HP := Lib.hid (HP.out.keep hb)
          have HKy : Hid (K19 b8 (o8 + (np - 1) * 2) g q w80.drew) := ⟨⟨(hb.cell (p := ⟨b8, _, none⟩) (lt_of_cell HKx.out.1.1)).trans HKx.out.1.1, (hb.cell (p := ⟨b8, _, none⟩) (lt_of_cell HKx.out.1.2)).trans HKx.out.1.2⟩, HK.out.2⟩
          clear hb HKx
          refine Sch.wp_region_tn (K19 b8 (o8 + (np - 1) * 2) g q) (.val 0 (.val 1 (.val 2 (.val 3 (.val 4 (.val 5 (.val 6 (.val 7 (.val 8 (.val 9 (.val 10 (.val 11 (.val 12 (.val 13 (.val 14 (.val 15 (.val 16 (.val 17 .done)))))))))))))))))) (by kernel_rfl) (by kernel_rfl) HKy.out ?_
          repeat (first
            | (refine Sch.tn_q rfl rfl rfl (fun K hK => ?_); go_big_quiet_op; (first | refine hK _ ?_ | refine ⟨_, fun _ _ => rfl, hK _ ?_⟩); clear hK K)
            | (refine Sch.tn_chk _ _ _ rfl rfl rfl rfl rfl ?_; simp only [Act.put, List.setIfInBounds_toArray, List.set_cons_zero, List.set_cons_succ])
            | (refine Sch.tn_load _ _ _ _ _ rfl rfl rfl rfl (by first | exact K19.l0 | exact K19.l1) rfl ?_; simp only [Act.put, List.setIfInBounds_toArray, List.set_cons_zero, List.set_cons_succ]))
          try (first | simp only [hd19b] | simp only [hd19])
          repeat (first
            | (refine Sch.tn_q rfl rfl rfl (fun K hK => ?_); go_big_quiet_op; (first | refine hK _ ?_ | refine ⟨_, fun _ _ => rfl, hK _ ?_⟩); clear hK K)
            | (refine Sch.tn_chk _ _ _ rfl rfl rfl rfl rfl ?_; simp only [Act.put, List.setIfInBounds_toArray, List.set_cons_zero, List.set_cons_succ])
            | (refine Sch.tn_load _ _ _ _ _ rfl rfl rfl rfl (by first | exact K19.l0 | exact K19.l1) rfl ?_; simp only [Act.put, List.setIfInBounds_toArray, List.set_cons_zero, List.set_cons_succ]))
          refine Sch.tn_n ?_
          generalize w80.drew = w81 at *
          clear hix8 hneq HKy hd19 hd19b hnp1
          have HU0 : Hid (Bd (w81.alloc (.cells #[.int .i64 0, .int .i64 0] 24)) w81.heap.size (upP p 0)) := by show Bd _ _ _; rw [up_zero]; exact bd_new w81 (0, 0)
          have HY0 := Lib.hid (bel_box w81 (.cells #[.int .i64 0, .int .i64 0] 24))
          go_wp2_with fail
          go_loopw [15, 16, 17, 184] (fun _ _ _ i wx => ∃ j : Nat, j ≤ np ∧ i = .int .i64 (j : Int) ∧ Hid (Below w81.heap.size w81 wx) ∧ Hid (Bd wx w81.heap.size (upP p j))) (fun _ _ _ i _ => np - (intOf i).toNat)
          case atStart => exact ⟨0, Nat.zero_le _, rfl, HY0, HU0⟩
          case round =>
            clear HY0 HU0
            obtain ⟨j, hj, rfl, HY, HU⟩ := hrel
            by_cases hjl : j < np
            · have hji : (j : Int) < (np : Int) := by omega
              have hjb : (j : Int) ≤ 40 := by omega
              have hjp : j < p.length := by have := HNp.out; omega
              obtain ⟨x, f1, f2, f3⟩ := HH.out.fd j hjp
              have HUs : Hid (upP p (j + 1) = p[j]) := up_succ hjp
              obtain ⟨y0, y1⟩ := rowD_at HP.out HY.out j hjp
              obtain ⟨d, hd⟩ : ∃ d, d = p[j] := ⟨_, rfl⟩
              rw [← hd] at f1 f2 y0 y1 HUs
              have hfc := fun w h => HFd.out d w f2 h
              rw [f1] at hfc
              have HFc := Lib.hid hfc
              have hix := ix_dot b8 o8 np c80 j (j : Int) rfl hjl
              generalize upP p j = u at *
              have hneq := neqD_no (p := x.2.1) (q := u) f3
              have hb := bel_box wr (.cells #[.int .i64 d.1, .int .i64 d.2] 24)
              have HD15 := Lib.hid (bd_new wr d)
              have HY2 := Lib.hid (bel_tr HY.out hb)
              have HU2 := Lib.hid (HU.out.keep hb)
              clear hb hd f1 f2 f3 hfc hjp
              have c0 := HD15.out.c0
              have c1 := HD15.out.c1
              go_wp2_with fail
              generalize wr.alloc (.cells #[.int .i64 d.1, .int .i64 d.2] 24) = w90 at *
              generalize wr.heap.size = g15 at *
              refine (HFc.out _ (HX1.out.keep HY2.out)).mono ?_
              rintro e w91 ⟨rfl, hb⟩
              have hb2 := bel_tr hb (bel_box w91 (.cells (nc x) 35))
              have HN16 := Lib.hid (Nb.new w91 x)
              replace HD15 := Lib.hid (HD15.out.keep hb2)
              replace HU2 := Lib.hid (HU2.out.keep hb2)
              replace HY2 := Lib.hid (bel_tr HY2.out hb2)
              clear hb hb2 HFc c0 c1 y0 y1 hix
              have c0 := HD15.out.c0
              have c1 := HD15.out.c1
              have u0 := HU2.out.c0
              have u1 := HU2.out.c1
              have f0 := bd_free HU2.out 0
              have f1 := bd_free HU2.out 1
              have HU3 := Lib.hid (bd_set HU2.out d)
              have HY3 := Lib.hid (belD HY2.out (Nat.le_refl _) d)
              obtain ⟨n0, n1, n2, n3, n4, n5⟩ := HN16.out
              go_wp2_with fail
              refine ⟨⟨j + 1, by omega, by go_num, HY3, by show Bd _ _ _; rw [HUs.out]; exact HU3.out⟩, ?_⟩
              simp [intOf]; omega
            · obtain rfl : j = np := by omega
              have hend : ¬ (j : Int) < (j : Int) := by omega
              have HZ3 := Lib.hid (bel_tr HZ2.out HY.out)
              go_wp2_with fail
              refine ⟨⟨k + 1, by omega, by go_num, HZ3⟩, ?_⟩
              simp [intOf]; omega
      · clear hrr HUp
        repeat (first
          | (refine Sch.tn_q rfl rfl rfl (fun K hK => ?_); go_big_quiet_op; (first | refine hK _ ?_ | refine ⟨_, fun _ _ => rfl, hK _ ?_⟩); clear hK K)
          | (refine Sch.tn_chk _ _ _ rfl rfl rfl rfl rfl ?_; simp only [Act.put, List.setIfInBounds_toArray, List.set_cons_zero, List.set_cons_succ])
          | (refine Sch.tn_load _ _ _ _ _ rfl rfl rfl rfl (by first | exact Kh.l0 | exact Kh.l2) rfl ?_; simp only [Act.put, List.setIfInBounds_toArray, List.set_cons_zero, List.set_cons_succ])
          | (refine Sch.tn_s _ rfl rfl rfl ?_; simp only [Act.put, List.setIfInBounds_toArray, List.set_cons_zero, List.set_cons_succ])
          | (refine Sch.tn_se _ rfl rfl rfl ?_; simp only [Act.put, List.setIfInBounds_toArray, List.set_cons_zero, List.set_cons_succ]))
        refine Sch.tn_n ?_
        clear hcut
        obtain ⟨m0, m1, m2, m3, m4, m5⟩ := HK.out.2
        have HCc := Lib.hid (HCh.out q.1 _ HX1.out)
        rw [HH.out.ch] at HCc
        go_wp2_with fail
        refine HCc.out.mono ?_
        rintro e w60 ⟨v60, rfl, ho, hb⟩
        obtain ⟨a60, c60, rfl, hr60, -⟩ := ON.row ho
        have HC1 := Lib.hid hr60
        replace HZ2 := Lib.hid (bel_tr HZ2.out hb)
        replace HX1 := Lib.hid (HX1.out.keep hb)
        replace HO1 := Lib.hid (HO1.out.keep hb)
        replace HK := Lib.hid (HK.out.keep hb)
        clear hb ho hr60 HCc m0 m1 m2 m3 m4 m5
        rcases C with _ | ⟨cc, ct⟩
        · rw [List.length_nil]
          clear HC1
          go_wp2_with fail
          have hb := (Below.refl w60.heap.size w60).drew
          replace HZ2 := Lib.hid (bel_tr HZ2.out hb)
          replace HX1 := Lib.hid (HX1.out.keep hb)
          replace HO1 := Lib.hid (HO1.out.keep hb)
          replace HK := Lib.hid (HK.out.keep hb)
          clear hb
          refine Sch.wp_region_tn (fun _ => True) (.val 0 (.val 1 (.val 2 (.val 3 (.val 4 (.val 5 (.val 6 (.val 7 (.val 8 (.val 9 (.val 10 (.val 11 (.val 12 (.val 13 (.val 14 (.val 15 (.val 16 (.val 17 (.val 18 (.val 19 (.val 20 (.val 21 (.val 22 (.val 23 (.val 24 .done))))))))))))))))))))))))) (by kernel_rfl) (by kernel_rfl) trivial ?_
          repeat (first
            | (refine Sch.tn_q rfl rfl rfl (fun K hK => ?_); go_big_quiet_op; (first | refine hK _ ?_ | refine ⟨_, fun _ _ => rfl, hK _ ?_⟩); clear hK K)
            | (refine Sch.tn_chk _ _ _ rfl rfl rfl rfl rfl ?_; simp only [Act.put, List.setIfInBounds_toArray, List.set_cons_zero, List.set_cons_succ]))
          repeat (first
            | (refine Sch.tn_q rfl rfl rfl (fun K hK => ?_); go_big_quiet_op; (first | refine hK _ ?_ | refine ⟨_, fun _ _ => rfl, hK _ ?_⟩); clear hK K)
            | (refine Sch.tn_chk _ _ _ rfl rfl rfl rfl rfl ?_; simp only [Act.put, List.setIfInBounds_toArray, List.set_cons_zero, List.set_cons_succ])
            | (refine Sch.tn_s _ rfl rfl rfl ?_; simp only [Act.put, List.setIfInBounds_toArray, List.set_cons_zero, List.set_cons_succ])
            | (refine Sch.tn_se _ rfl rfl rfl ?_; simp only [Act.put, List.setIfInBounds_toArray, List.set_cons_zero, List.set_cons_succ]))
          refine Sch.tn_n ?_
          generalize w60.drew = w61 at *
          obtain ⟨m0, m1, m2, m3, m4, m5⟩ := HK.out.2
          have HBc := Lib.hid (HBl.out q.1 _ HX1.out)
          rw [HH.out.be] at HBc
          go_wp2_with fail
          refine HBc.out.mono ?_
          rintro e w70 ⟨v70, rfl, ho, hb⟩
          obtain ⟨a70, c70, rfl, hr70, -⟩ := OD.row ho
          have HB1 := Lib.hid hr70
          replace HZ2 := Lib.hid (bel_tr HZ2.out hb)
          replace HX1 := Lib.hid (HX1.out.keep hb)
          replace HO1 := Lib.hid (HO1.out.keep hb)
          replace HK := Lib.hid (HK.out.keep hb)
          clear hb ho hr70 HBc m0 m1 m2 m3 m4 m5
          obtain ⟨nB, hnB⟩ : ∃ nB, nB = B.length := ⟨_, rfl⟩
          have hbl : k + 1 + nB ≤ O.length := by rw [hnB]; exact HH.out.bl
          have hbn : B = ((O.drop (k + 1)).take nB).map (·.1) := by rw [hnB]; exact HH.out.bn
          have hd16 : decide ((O.length : Int) < (k : Int) + 1 + (nB : Int)) = false := decide_eq_false (by omega)
          have hcutm := cut_midH (some (⟨b1, o1, none⟩ : Addr)) O.length cO (k + 1) (k + 1 + nB) (by omega) hbl HCo.out
          rw [show k + 1 + nB - (k + 1) = nB by omega, show ((k + 1 : Nat) : Int) = (k : Int) + 1 by omega, show ((k + 1 + nB : Nat) : Int) = (k : Int) + 1 + (nB : Int) by omega] at hcutm
          have HXr := Lib.hid ((offN_row HO1.out cO (k + 1) HCo.out (by omega)).take nB)
          have hxl : ((O.drop (k + 1)).take nB).length = nB := by rw [List.length_take, List.length_drop]; omega
          have hnx := names_any ((O.drop (k + 1)).take nB) (offN (some (⟨b1, o1, none⟩ : Addr)) cO (k + 1)) (cO - (k + 1)) _ HXr.out (by rw [hxl]; omega)
          rw [hxl, ← hbn] at hnx
          have HNx := Lib.hid hnx
          have hnb40 : (nB : Int) ≤ 40 := by omega
          have HnB := Lib.hid hnB
          rw [← hnB]
          clear hnx hxl HXr hbn hbl hnB
          generalize offN (some (⟨b1, o1, none⟩ : Addr)) cO (k + 1) = aX at *
          generalize cO - (k + 1) = cX at *
          go_wp2_with fail
          refine HNx.out.mono ?_
          rintro e w71 ⟨v71, rfl, ho, hb⟩
          obtain ⟨a71, c71, hv71, hr71, -⟩ := OD.row ho
          rw [← HnB.out] at hv71
          subst hv71
          have HY := Lib.hid hr71
          replace HZ2 := Lib.hid (bel_tr HZ2.out hb)
          replace HX1 := Lib.hid (HX1.out.keep hb)
          replace HO1 := Lib.hid (HO1.out.keep hb)
          replace HK := Lib.hid (HK.out.keep hb)
          replace HB1 := Lib.hid (HB1.out.keep hb)
          clear hb ho hr71 HNx
          have hsm := sameD_true B a70 a71 c70 c71 w71 HB1.out HY.out (by have := HnB.out; omega)
          rw [← HnB.out] at hsm
          have HSb := Lib.hid hsm
          clear hsm HB1 HY HnB
          go_wp2_with fail
          refine (HSb.out).mono ?_
          rintro e w106 ⟨rfl, hb⟩
          replace HZ2 := Lib.hid (bel_tr HZ2.out hb)
          replace HX1 := Lib.hid (HX1.out.keep hb)
          replace HO1 := Lib.hid (HO1.out.keep hb)
          replace HK := Lib.hid (HK.out.keep hb)
          clear hb
          clear HSb hcutm hd16 hnb40
          obtain ⟨m0, m1, m2, m3, m4, m5⟩ := HK.out.2
          have HPc := Lib.hid (HPt.out q.1 _ HX1.out)
          rw [HH.out.pa] at HPc
          go_wp2_with fail
          refine HPc.out.mono ?_
          rintro e w80 ⟨v80, rfl, ho, hb⟩
          obtain ⟨a80, c80, rfl, hr80, -⟩ := OD.row ho
          have HP := Lib.hid hr80
          replace HZ2 := Lib.hid (bel_tr HZ2.out hb)
          replace HX1 := Lib.hid (HX1.out.keep hb)
          replace HO1 := Lib.hid (HO1.out.keep hb)
          replace HK := Lib.hid (HK.out.keep hb)
          clear hb ho hr80 HPc m0 m1 m2 m3 m4 m5
          obtain ⟨np, hnp⟩ : ∃ np, np = p.length := ⟨_, rfl⟩
          have hnp0 : 0 < np := by rw [hnp]; exact HH.out.p0
          have hnp40 : (np : Int) ≤ 40 := by have := HH.out.pl; omega
          have hnp1 : (1 : Int) ≤ (np : Int) := by omega
          have hd19 : decide ((np : Int) = 0) = false := decide_eq_false (by omega)
          have hd19b : ((np : Int) == 0) = false := beq_false_of_ne (by omega)
          obtain ⟨b8, o8, e8, x0, x1⟩ := HP.out.get (Below.refl _ _) (np - 1) (by omega)
          subst e8
          have hla : ∀ h : np - 1 < p.length, p[np - 1] = q.1 := by rw [hnp]; exact HH.out.last
          rw [hla] at x0 x1
          have hix8 := ix_dot b8 o8 np c80 (np - 1) ((np : Int) - 1) (by omega) (by omega)
          have hneq := neqD_no (p := q.1) (q := q.1) rfl
          have HKx : Hid (K19 b8 (o8 + (np - 1) * 2) g q w80) := ⟨⟨x0, x1⟩, HK.out.2⟩
          have HNp := Lib.hid hnp
          rw [← hnp]
          clear hla x0 x1 hnp hnp0
          go_wp2_with fail
          have hb := (Below.refl w80.heap.size w80).drew
          replace HZ2 := Lib.hid (bel_tr HZ2.out hb)
          replace HX1 := Lib.hid (HX1.out.keep hb)
          replace HO1 := Lib.hid (HO1.out.keep hb)
          replace HK := Lib.hid (HK.out.keep hb)
          replace HP := Lib.hid (HP.out.keep hb)
          have HKy : Hid (K19 b8 (o8 + (np - 1) * 2) g q w80.drew) := ⟨⟨(hb.cell (p := ⟨b8, _, none⟩) (lt_of_cell HKx.out.1.1)).trans HKx.out.1.1, (hb.cell (p := ⟨b8, _, none⟩) (lt_of_cell HKx.out.1.2)).trans HKx.out.1.2⟩, HK.out.2⟩
          clear hb HKx
          refine Sch.wp_region_tn (K19 b8 (o8 + (np - 1) * 2) g q) (.val 0 (.val 1 (.val 2 (.val 3 (.val 4 (.val 5 (.val 6 (.val 7 (.val 8 (.val 9 (.val 10 (.val 11 (.val 12 (.val 13 (.val 14 (.val 15 (.val 16 (.val 17 .done)))))))))))))))))) (by kernel_rfl) (by kernel_rfl) HKy.out ?_
          repeat (first
            | (refine Sch.tn_q rfl rfl rfl (fun K hK => ?_); go_big_quiet_op; (first | refine hK _ ?_ | refine ⟨_, fun _ _ => rfl, hK _ ?_⟩); clear hK K)
            | (refine Sch.tn_chk _ _ _ rfl rfl rfl rfl rfl ?_; simp only [Act.put, List.setIfInBounds_toArray, List.set_cons_zero, List.set_cons_succ])
            | (refine Sch.tn_load _ _ _ _ _ rfl rfl rfl rfl (by first | exact K19.l0 | exact K19.l1) rfl ?_; simp only [Act.put, List.setIfInBounds_toArray, List.set_cons_zero, List.set_cons_succ]))
          try (first | simp only [hd19b] | simp only [hd19])
          repeat (first
            | (refine Sch.tn_q rfl rfl rfl (fun K hK => ?_); go_big_quiet_op; (first | refine hK _ ?_ | refine ⟨_, fun _ _ => rfl, hK _ ?_⟩); clear hK K)
            | (refine Sch.tn_chk _ _ _ rfl rfl rfl rfl rfl ?_; simp only [Act.put, List.setIfInBounds_toArray, List.set_cons_zero, List.set_cons_succ])
            | (refine Sch.tn_load _ _ _ _ _ rfl rfl rfl rfl (by first | exact K19.l0 | exact K19.l1) rfl ?_; simp only [Act.put, List.setIfInBounds_toArray, List.set_cons_zero, List.set_cons_succ]))
          refine Sch.tn_n ?_
          generalize w80.drew = w81 at *
          clear hix8 hneq HKy hd19 hd19b hnp1
          have HU0 : Hid (Bd (w81.alloc (.cells #[.int .i64 0, .int .i64 0] 24)) w81.heap.size (upP p 0)) := by show Bd _ _ _; rw [up_zero]; exact bd_new w81 (0, 0)
          have HY0 := Lib.hid (bel_box w81 (.cells #[.int .i64 0, .int .i64 0] 24))
          go_wp2_with fail
          go_loopw [15, 16, 17, 184] (fun _ _ _ i wx => ∃ j : Nat, j ≤ np ∧ i = .int .i64 (j : Int) ∧ Hid (Below w81.heap.size w81 wx) ∧ Hid (Bd wx w81.heap.size (upP p j))) (fun _ _ _ i _ => np - (intOf i).toNat)
          case atStart => exact ⟨0, Nat.zero_le _, rfl, HY0, HU0⟩
          case round =>
            clear HY0 HU0
            obtain ⟨j, hj, rfl, HY, HU⟩ := hrel
            by_cases hjl : j < np
            · have hji : (j : Int) < (np : Int) := by omega
              have hjb : (j : Int) ≤ 40 := by omega
              have hjp : j < p.length := by have := HNp.out; omega
              obtain ⟨x, f1, f2, f3⟩ := HH.out.fd j hjp
              have HUs : Hid (upP p (j + 1) = p[j]) := up_succ hjp
              obtain ⟨y0, y1⟩ := rowD_at HP.out HY.out j hjp
              obtain ⟨d, hd⟩ : ∃ d, d = p[j] := ⟨_, rfl⟩
              rw [← hd] at f1 f2 y0 y1 HUs
              have hfc := fun w h => HFd.out d w f2 h
              rw [f1] at hfc
              have HFc := Lib.hid hfc
              have hix := ix_dot b8 o8 np c80 j (j : Int) rfl hjl
              generalize upP p j = u at *
              have hneq := neqD_no (p := x.2.1) (q := u) f3
              have hb := bel_box wr (.cells #[.int .i64 d.1, .int .i64 d.2] 24)
              have HD15 := Lib.hid (bd_new wr d)
              have HY2 := Lib.hid (bel_tr HY.out hb)
              have HU2 := Lib.hid (HU.out.keep hb)
              clear hb hd f1 f2 f3 hfc hjp
              have c0 := HD15.out.c0
              have c1 := HD15.out.c1
              go_wp2_with fail
              generalize wr.alloc (.cells #[.int .i64 d.1, .int .i64 d.2] 24) = w90 at *
              generalize wr.heap.size = g15 at *
              refine (HFc.out _ (HX1.out.keep HY2.out)).mono ?_
              rintro e w91 ⟨rfl, hb⟩
              have hb2 := bel_tr hb (bel_box w91 (.cells (nc x) 35))
              have HN16 := Lib.hid (Nb.new w91 x)
              replace HD15 := Lib.hid (HD15.out.keep hb2)
              replace HU2 := Lib.hid (HU2.out.keep hb2)
              replace HY2 := Lib.hid (bel_tr HY2.out hb2)
              clear hb hb2 HFc c0 c1 y0 y1 hix
              have c0 := HD15.out.c0
              have c1 := HD15.out.c1
              have u0 := HU2.out.c0
              have u1 := HU2.out.c1
              have f0 := bd_free HU2.out 0
              have f1 := bd_free HU2.out 1
              have HU3 := Lib.hid (bd_set HU2.out d)
              have HY3 := Lib.hid (belD HY2.out (Nat.le_refl _) d)
              obtain ⟨n0, n1, n2, n3, n4, n5⟩ := HN16.out
              go_wp2_with fail
              refine ⟨⟨j + 1, by omega, by go_num, HY3, by show Bd _ _ _; rw [HUs.out]; exact HU3.out⟩, ?_⟩
              simp [intOf]; omega
            · obtain rfl : j = np := by omega
              have hend : ¬ (j : Int) < (j : Int) := by omega
              have HZ3 := Lib.hid (bel_tr HZ2.out HY.out)
              go_wp2_with fail
              refine ⟨⟨k + 1, by omega, by go_num, HZ3⟩, ?_⟩
              simp [intOf]; omega
        · obtain ⟨nC, hnC⟩ : ∃ nC, nC = (cc :: ct).length := ⟨_, rfl⟩
          obtain ⟨hk1, hO1⟩ := HH.out.first cc ct rfl
          have hnC0 : 0 < nC := by rw [hnC]; simp
          have hnCi : (0 : Int) < (nC : Int) := by omega
          have hnCd : decide ((0 : Int) < (nC : Int)) = true := decide_eq_true hnCi
          have hk1d : decide ((O.length : Int) ≤ (k : Int) + 1) = false := decide_eq_false (by omega)
          obtain ⟨b9, o9, e9, hn9⟩ := na_of HC1.out 0 (by simp)
          obtain ⟨b2, o2, e2, hn2⟩ := na_of HO1.out (k + 1) hk1
          cases e2
          rw [hO1] at hn2
          subst e9
          rw [← hnC]
          have hix1 := ixN b1 o1 O.length cO (k + 1) ((k : Int) + 1) (by omega) hk1
          have hix9 := ixN b9 o9 nC c60 0 0 rfl hnC0
          have hneq := neqN_no cc
          have HK3 : Hid (K13 b1 (o1 + (k + 1) * 6) b9 (o9 + 0 * 6) cc w60) := ⟨hn2, hn9⟩
          have hnCe : decide (0 < nC) = true := decide_eq_true hnC0
          have hk1n : ¬ O.length ≤ k + 1 := by omega
          have hk1e : decide (O.length ≤ k + 1) = false := decide_eq_false hk1n
          clear HC1 hn2 hn9 hnC hO1
          go_wp2_with fail
          have hb := (Below.refl w60.heap.size w60).drew
          replace HZ2 := Lib.hid (bel_tr HZ2.out hb)
          replace HX1 := Lib.hid (HX1.out.keep hb)
          replace HO1 := Lib.hid (HO1.out.keep hb)
          replace HK := Lib.hid (HK.out.keep hb)
          have HK4 : Hid (K13 b1 (o1 + (k + 1) * 6) b9 (o9 + 0 * 6) cc w60.drew) := ⟨HK3.out.1.keep hb, HK3.out.2.keep hb⟩
          clear hb HK3
          refine Sch.wp_region_tn (K13 b1 (o1 + (k + 1) * 6) b9 (o9 + 0 * 6) cc) (.val 0 (.val 1 (.val 2 (.val 3 (.val 4 (.val 5 (.val 6 (.val 7 (.val 8 (.val 9 (.val 10 (.val 11 (.val 12 (.val 13 (.val 14 (.val 15 (.val 16 (.val 17 (.val 18 (.val 19 (.val 20 (.val 21 (.val 22 (.val 23 (.val 24 .done))))))))))))))))))))))))) (by kernel_rfl) (by kernel_rfl) HK4.out ?_
          repeat (first
            | (refine Sch.tn_q rfl rfl rfl (fun K hK => ?_); go_big_quiet_op; (first | refine hK _ ?_ | refine ⟨_, fun _ _ => rfl, hK _ ?_⟩); clear hK K)
            | (refine Sch.tn_chk _ _ _ rfl rfl rfl rfl rfl ?_; simp only [Act.put, List.setIfInBounds_toArray, List.set_cons_zero, List.set_cons_succ])
            | (refine Sch.tn_load _ _ _ _ _ rfl rfl rfl rfl (by first | exact K13.l0 | exact K13.l1) rfl ?_; simp only [Act.put, List.setIfInBounds_toArray, List.set_cons_zero, List.set_cons_succ]))
          try simp only [hnCd, hnCe]
          repeat (first
            | (refine Sch.tn_q rfl rfl rfl (fun K hK => ?_); go_big_quiet_op; (first | refine hK _ ?_ | refine ⟨_, fun _ _ => rfl, hK _ ?_⟩); clear hK K)
            | (refine Sch.tn_chk _ _ _ rfl rfl rfl rfl rfl ?_; simp only [Act.put, List.setIfInBounds_toArray, List.set_cons_zero, List.set_cons_succ])
            | (refine Sch.tn_load _ _ _ _ _ rfl rfl rfl rfl (by first | exact K13.l0 | exact K13.l1) rfl ?_; simp only [Act.put, List.setIfInBounds_toArray, List.set_cons_zero, List.set_cons_succ]))
          try simp only [hk1d, hk1e]
          repeat (first
            | (refine Sch.tn_q rfl rfl rfl (fun K hK => ?_); go_big_quiet_op; (first | refine hK _ ?_ | refine ⟨_, fun _ _ => rfl, hK _ ?_⟩); clear hK K)
            | (refine Sch.tn_chk _ _ _ rfl rfl rfl rfl rfl ?_; simp only [Act.put, List.setIfInBounds_toArray, List.set_cons_zero, List.set_cons_succ])
            | (refine Sch.tn_load _ _ _ _ _ rfl rfl rfl rfl (by first | exact K13.l0 | exact K13.l1) rfl ?_; simp only [Act.put, List.setIfInBounds_toArray, List.set_cons_zero, List.set_cons_succ]))
          refine Sch.tn_n ?_
          generalize w60.drew = w61 at *
          clear hix1 hix9 hneq HK4 hnCi hnCd hk1d hnCe hk1n hk1e hk1 hnC0
          obtain ⟨m0, m1, m2, m3, m4, m5⟩ := HK.out.2
          have HBc := Lib.hid (HBl.out q.1 _ HX1.out)
          rw [HH.out.be] at HBc
          go_wp2_with fail
          refine HBc.out.mono ?_
          rintro e w70 ⟨v70, rfl, ho, hb⟩
          obtain ⟨a70, c70, rfl, hr70, -⟩ := OD.row ho
          have HB1 := Lib.hid hr70
          replace HZ2 := Lib.hid (bel_tr HZ2.out hb)
          replace HX1 := Lib.hid (HX1.out.keep hb)
          replace HO1 := Lib.hid (HO1.out.keep hb)
          replace HK := Lib.hid (HK.out.keep hb)
          clear hb ho hr70 HBc m0 m1 m2 m3 m4 m5
          obtain ⟨nB, hnB⟩ : ∃ nB, nB = B.length := ⟨_, rfl⟩
          have hbl : k + 1 + nB ≤ O.length := by rw [hnB]; exact HH.out.bl
          have hbn : B = ((O.drop (k + 1)).take nB).map (·.1) := by rw [hnB]; exact HH.out.bn
          have hd16 : decide ((O.length : Int) < (k : Int) + 1 + (nB : Int)) = false := decide_eq_false (by omega)
          have hcutm := cut_midH (some (⟨b1, o1, none⟩ : Addr)) O.length cO (k + 1) (k + 1 + nB) (by omega) hbl HCo.out
          rw [show k + 1 + nB - (k + 1) = nB by omega, show ((k + 1 : Nat) : Int) = (k : Int) + 1 by omega, show ((k + 1 + nB : Nat) : Int) = (k : Int) + 1 + (nB : Int) by omega] at hcutm
          have HXr := Lib.hid ((offN_row HO1.out cO (k + 1) HCo.out (by omega)).take nB)
          have hxl : ((O.drop (k + 1)).take nB).length = nB := by rw [List.length_take, List.length_drop]; omega
          have hnx := names_any ((O.drop (k + 1)).take nB) (offN (some (⟨b1, o1, none⟩ : Addr)) cO (k + 1)) (cO - (k + 1)) _ HXr.out (by rw [hxl]; omega)
          rw [hxl, ← hbn] at hnx
          have HNx := Lib.hid hnx
          have hnb40 : (nB : Int) ≤ 40 := by omega
          have HnB := Lib.hid hnB
          rw [← hnB]
          clear hnx hxl HXr hbn hbl hnB
          generalize offN (some (⟨b1, o1, none⟩ : Addr)) cO (k + 1) = aX at *
          generalize cO - (k + 1) = cX at *
          go_wp2_with fail
          refine HNx.out.mono ?_
          rintro e w71 ⟨v71, rfl, ho, hb⟩
          obtain ⟨a71, c71, hv71, hr71, -⟩ := OD.row ho
          rw [← HnB.out] at hv71
          subst hv71
          have HY := Lib.hid hr71
          replace HZ2 := Lib.hid (bel_tr HZ2.out hb)
          replace HX1 := Lib.hid (HX1.out.keep hb)
          replace HO1 := Lib.hid (HO1.out.keep hb)
          replace HK := Lib.hid (HK.out.keep hb)
          replace HB1 := Lib.hid (HB1.out.keep hb)
          clear hb ho hr71 HNx
          have hsm := sameD_true B a70 a71 c70 c71 w71 HB1.out HY.out (by have := HnB.out; omega)
          rw [← HnB.out] at hsm
          have HSb := Lib.hid hsm
          clear hsm HB1 HY HnB
          go_wp2_with fail
          refine (HSb.out).mono ?_
          rintro e w107 ⟨rfl, hb⟩
          replace HZ2 := Lib.hid (bel_tr HZ2.out hb)
          replace HX1 := Lib.hid (HX1.out.keep hb)
          replace HO1 := Lib.hid (HO1.out.keep hb)
          replace HK := Lib.hid (HK.out.keep hb)
          clear hb
          clear HSb hcutm hd16 hnb40
          obtain ⟨m0, m1, m2, m3, m4, m5⟩ := HK.out.2
          have HPc := Lib.hid (HPt.out q.1 _ HX1.out)
          rw [HH.out.pa] at HPc
          go_wp2_with fail
          refine HPc.out.mono ?_
          rintro e w80 ⟨v80, rfl, ho, hb⟩
          obtain ⟨a80, c80, rfl, hr80, -⟩ := OD.row ho
          have HP := Lib.hid hr80
          replace HZ2 := Lib.hid (bel_tr HZ2.out hb)
          replace HX1 := Lib.hid (HX1.out.keep hb)
          replace HO1 := Lib.hid (HO1.out.keep hb)
          replace HK := Lib.hid (HK.out.keep hb)
          clear hb ho hr80 HPc m0 m1 m2 m3 m4 m5
          obtain ⟨np, hnp⟩ : ∃ np, np = p.length := ⟨_, rfl⟩
          have hnp0 : 0 < np := by rw [hnp]; exact HH.out.p0
          have hnp40 : (np : Int) ≤ 40 := by have := HH.out.pl; omega
          have hnp1 : (1 : Int) ≤ (np : Int) := by omega
          have hd19 : decide ((np : Int) = 0) = false := decide_eq_false (by omega)
          have hd19b : ((np : Int) == 0) = false := beq_false_of_ne (by omega)
          obtain ⟨b8, o8, e8, x0, x1⟩ := HP.out.get (Below.refl _ _) (np - 1) (by omega)
          subst e8
          have hla : ∀ h : np - 1 < p.length, p[np - 1] = q.1 := by rw [hnp]; exact HH.out.last
          rw [hla] at x0 x1
          have hix8 := ix_dot b8 o8 np c80 (np - 1) ((np : Int) - 1) (by omega) (by omega)
          have hneq := neqD_no (p := q.1) (q := q.1) rfl
          have HKx : Hid (K19 b8 (o8 + (np - 1) * 2) g q w80) := ⟨⟨x0, x1⟩, HK.out.2⟩
          have HNp := Lib.hid hnp
          rw [← hnp]
          clear hla x0 x1 hnp hnp0
          go_wp2_with fail
          have hb := (Below.refl w80.heap.size w80).drew
          replace HZ2 := Lib.hid (bel_tr HZ2.out hb)
          replace HX1 := Lib.hid (HX1.out.keep hb)
          replace HO1 := Lib.hid (HO1.out.keep hb)
          replace HK := Lib.hid (HK.out.keep hb)
          replace HP := Lib.hid (HP.out.keep hb)
          have HKy : Hid (K19 b8 (o8 + (np - 1) * 2) g q w80.drew) := ⟨⟨(hb.cell (p := ⟨b8, _, none⟩) (lt_of_cell HKx.out.1.1)).trans HKx.out.1.1, (hb.cell (p := ⟨b8, _, none⟩) (lt_of_cell HKx.out.1.2)).trans HKx.out.1.2⟩, HK.out.2⟩
          clear hb HKx
          refine Sch.wp_region_tn (K19 b8 (o8 + (np - 1) * 2) g q) (.val 0 (.val 1 (.val 2 (.val 3 (.val 4 (.val 5 (.val 6 (.val 7 (.val 8 (.val 9 (.val 10 (.val 11 (.val 12 (.val 13 (.val 14 (.val 15 (.val 16 (.val 17 .done)))))))))))))))))) (by kernel_rfl) (by kernel_rfl) HKy.out ?_
          repeat (first
            | (refine Sch.tn_q rfl rfl rfl (fun K hK => ?_); go_big_quiet_op; (first | refine hK _ ?_ | refine ⟨_, fun _ _ => rfl, hK _ ?_⟩); clear hK K)
            | (refine Sch.tn_chk _ _ _ rfl rfl rfl rfl rfl ?_; simp only [Act.put, List.setIfInBounds_toArray, List.set_cons_zero, List.set_cons_succ])
            | (refine Sch.tn_load _ _ _ _ _ rfl rfl rfl rfl (by first | exact K19.l0 | exact K19.l1) rfl ?_; simp only [Act.put, List.setIfInBounds_toArray, List.set_cons_zero, List.set_cons_succ]))
          try (first | simp only [hd19b] | simp only [hd19])
          repeat (first
            | (refine Sch.tn_q rfl rfl rfl (fun K hK => ?_); go_big_quiet_op; (first | refine hK _ ?_ | refine ⟨_, fun _ _ => rfl, hK _ ?_⟩); clear hK K)
            | (refine Sch.tn_chk _ _ _ rfl rfl rfl rfl rfl ?_; simp only [Act.put, List.setIfInBounds_toArray, List.set_cons_zero, List.set_cons_succ])
            | (refine Sch.tn_load _ _ _ _ _ rfl rfl rfl rfl (by first | exact K19.l0 | exact K19.l1) rfl ?_; simp only [Act.put, List.setIfInBounds_toArray, List.set_cons_zero, List.set_cons_succ]))
          refine Sch.tn_n ?_
          generalize w80.drew = w81 at *
          clear hix8 hneq HKy hd19 hd19b hnp1
          have HU0 : Hid (Bd (w81.alloc (.cells #[.int .i64 0, .int .i64 0] 24)) w81.heap.size (upP p 0)) := by show Bd _ _ _; rw [up_zero]; exact bd_new w81 (0, 0)
          have HY0 := Lib.hid (bel_box w81 (.cells #[.int .i64 0, .int .i64 0] 24))
          go_wp2_with fail
          go_loopw [15, 16, 17, 184] (fun _ _ _ i wx => ∃ j : Nat, j ≤ np ∧ i = .int .i64 (j : Int) ∧ Hid (Below w81.heap.size w81 wx) ∧ Hid (Bd wx w81.heap.size (upP p j))) (fun _ _ _ i _ => np - (intOf i).toNat)
          case atStart => exact ⟨0, Nat.zero_le _, rfl, HY0, HU0⟩
          case round =>
            clear HY0 HU0
            obtain ⟨j, hj, rfl, HY, HU⟩ := hrel
            by_cases hjl : j < np
            · have hji : (j : Int) < (np : Int) := by omega
              have hjb : (j : Int) ≤ 40 := by omega
              have hjp : j < p.length := by have := HNp.out; omega
              obtain ⟨x, f1, f2, f3⟩ := HH.out.fd j hjp
              have HUs : Hid (upP p (j + 1) = p[j]) := up_succ hjp
              obtain ⟨y0, y1⟩ := rowD_at HP.out HY.out j hjp
              obtain ⟨d, hd⟩ : ∃ d, d = p[j] := ⟨_, rfl⟩
              rw [← hd] at f1 f2 y0 y1 HUs
              have hfc := fun w h => HFd.out d w f2 h
              rw [f1] at hfc
              have HFc := Lib.hid hfc
              have hix := ix_dot b8 o8 np c80 j (j : Int) rfl hjl
              generalize upP p j = u at *
              have hneq := neqD_no (p := x.2.1) (q := u) f3
              have hb := bel_box wr (.cells #[.int .i64 d.1, .int .i64 d.2] 24)
              have HD15 := Lib.hid (bd_new wr d)
              have HY2 := Lib.hid (bel_tr HY.out hb)
              have HU2 := Lib.hid (HU.out.keep hb)
              clear hb hd f1 f2 f3 hfc hjp
              have c0 := HD15.out.c0
              have c1 := HD15.out.c1
              go_wp2_with fail
              generalize wr.alloc (.cells #[.int .i64 d.1, .int .i64 d.2] 24) = w90 at *
              generalize wr.heap.size = g15 at *
              refine (HFc.out _ (HX1.out.keep HY2.out)).mono ?_
              rintro e w91 ⟨rfl, hb⟩
              have hb2 := bel_tr hb (bel_box w91 (.cells (nc x) 35))
              have HN16 := Lib.hid (Nb.new w91 x)
              replace HD15 := Lib.hid (HD15.out.keep hb2)
              replace HU2 := Lib.hid (HU2.out.keep hb2)
              replace HY2 := Lib.hid (bel_tr HY2.out hb2)
              clear hb hb2 HFc c0 c1 y0 y1 hix
              have c0 := HD15.out.c0
              have c1 := HD15.out.c1
              have u0 := HU2.out.c0
              have u1 := HU2.out.c1
              have f0 := bd_free HU2.out 0
              have f1 := bd_free HU2.out 1
              have HU3 := Lib.hid (bd_set HU2.out d)
              have HY3 := Lib.hid (belD HY2.out (Nat.le_refl _) d)
              obtain ⟨n0, n1, n2, n3, n4, n5⟩ := HN16.out
              go_wp2_with fail
              refine ⟨⟨j + 1, by omega, by go_num, HY3, by show Bd _ _ _; rw [HUs.out]; exact HU3.out⟩, ?_⟩
              simp [intOf]; omega
            · obtain rfl : j = np := by omega
              have hend : ¬ (j : Int) < (j : Int) := by omega
              have HZ3 := Lib.hid (bel_tr HZ2.out HY.out)
              go_wp2_with fail
              refine ⟨⟨k + 1, by omega, by go_num, HZ3⟩, ?_⟩
              simp [intOf]; omega
    · obtain rfl : k = O.length := by omega
      have hend : ¬ (O.length : Int) < (O.length : Int) := by omega
      replace HB := Lib.hid (bel_tr HB.out HZ.out)
      go_wp2_with fail
      refine (HKn.out _).mono ?_
      rintro e w99 ⟨rfl, hb⟩
      replace HB := Lib.hid (bel_tr HB.out hb)
      clear hb HKn
      go_wp2_with fail
      go_ret
      exact ⟨rfl, HB.out⟩
end Go.Proofs.Yteojbekkbgcmnaa.Un
