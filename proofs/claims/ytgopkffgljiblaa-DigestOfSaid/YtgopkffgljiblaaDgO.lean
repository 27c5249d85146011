/-
  Layer 16: the laws DigestOf, DigestHolds.
-/
import Derived.Test.YtgopkffgljiblaaDgK
import Derived.Test.YtgopkffgljiblaaMQAdd
namespace Go.Proofs.Ytgopkffgljiblaa.Dg
set_option linter.unusedVariables false
open Go.RowKit V Go.Sort D Nd Qs Jn
open E (SV)
open F (Ct cv cbox Bc)
attribute [local irreducible] Sch.heldN Sch.stepV Sch.stepE

theorem ctx_len {l : List Nt} (h : validS l = true) (b : Bool) : KL (l.length + 64) (ctxS l b) := by
  have h1 := E.vd_len (comp_vcC (ctx_comp h b)).1
  have h2 := cloud_ctx h b
  have h3 := List.length_filter_le (fun x : Dt => decide (E.getV (ctxS l b).1 x.1 < x.2)) (dotsS l b)
  have h4 := dots_len l b
  rw [h2] at h3
  exact ⟨by omega, by omega⟩
theorem of_len {l : List Nt} (h : validS l = true) : GL (l.length + 64) (ofG l) := ⟨ctx_len h false, ctx_len h true⟩
theorem ofB_yes {l : List Nt} (h : validS l = true) : ofB l = (ofG l, 0) := by unfold ofB; rw [if_pos h]
theorem ofB_no {l : List Nt} (h : validS l = false) : ofB l = ((([], []), [], []), 2) := by unfold ofB; rw [if_neg (by rw [h]; simp)]
theorem GL_nil (N : Nat) : GL N (([], []), [], []) := ⟨⟨Nat.zero_le _, Nat.zero_le _⟩, Nat.zero_le _, Nat.zero_le _⟩
set_option maxRecDepth 100000 in
set_option maxHeartbeats 8000000 in
theorem of_law (l : List Nt) (a : Option Addr) (c : Nat) (w : World) (hx : RowN w a l) :
    Calls Try.prog 3 #[.slice a l.length c] w fun e w' => e = .returned (.bool true) ∧ Below w.heap.size w w' := by
  have HB := Lib.hid (Below.refl w.heap.size w)
  by_cases hl : 60 < l.length
  · have hl2 : (60 : Int) < (l.length : Int) := by omega
    clear hl hx
    go_enter Try.func3, Try.ntmps3
    go_wp2_with fail
    refine (known_any _).mono ?_
    rintro e w99 ⟨rfl, hb⟩
    replace HB := bel_tr HB hb
    clear hb
    go_wp2_with fail
    go_ret
    exact ⟨rfl, HB.out⟩
  have hl2 : ¬ (60 : Int) < (l.length : Int) := by omega
  have HX := Lib.hid hx
  have HSt := Lib.hid (fun w h => store_ref l a c w h (by omega))
  have HOf := Lib.hid (fun (h : validS l = true) w h2 => ofR_ref l h a c w h2 (by omega))
  have HL : Hid (validS l = true → GL 400000 (ofG l)) := fun h => (of_len h).mono (by omega)
  have HV : Hid (validS l = true → validG (ofG l) = true) := fun h => of_validG h
  have HY : Hid (validS l = true → ofB l = (ofG l, 0)) := fun h => ofB_yes h
  have HN : Hid (validS l = false → ofB l = ((([], []), [], []), 2)) := fun h => ofB_no h
  have HT := Lib.hid (fun (w : World) (D : Gt) (z : Int) (x y u v : Value) (h : ofB l = (D, z)) (h1 : RowN w a l) (h2 : Gx w x y u v D) (h3 : GL 1000000 D) => ofs_true (c := c) h rfl h1 (by omega) h2 h3)
  clear hl hx
  go_enter Try.func3, Try.ntmps3
  go_wp2_with fail
  refine (HSt.out _ HX.out).mono ?_
  rintro e w1 ⟨rfl, hb⟩
  replace HB := bel_tr HB hb
  replace HX := Lib.hid (HX.out.keep hb)
  clear hb HSt
  rcases hv : validS l with _ | _
  · have HT2 := Lib.hid (HT.out w1 _ _ _ _ _ _ (HN.out hv) HX.out (Gx.nil _) (GL_nil _))
    clear hv HN HY HV HL HOf HT HX
    go_wp2_with fail
    refine HT2.out.mono ?_
    rintro e w2 ⟨rfl, hb⟩
    replace HB := bel_tr HB hb
    clear hb HT2
    go_wp2_with fail
    refine (known_any _).mono ?_
    rintro e w99 ⟨rfl, hb⟩
    replace HB := bel_tr HB hb
    clear hb
    go_wp2_with fail
    go_ret
    exact ⟨rfl, HB.out⟩
  have HO1 := Lib.hid (HOf.out hv)
  have HT2 := Lib.hid (fun w x y u v h1 h2 => HT.out w _ _ x y u v (HY.out hv) h1 h2 ((HL.out hv).mono (by decide)))
  have HV2 := Lib.hid (fun x y u v w h => gvalid_any (ofG l) x y u v w h (HL.out hv))
  rw [HV.out hv] at HV2
  clear hv HN HY HV HL HOf HT
  go_wp2_with fail
  refine (HO1.out _ HX.out).mono ?_
  rintro e w2 ⟨x, y, u, v, rfl, ho, hb⟩
  have HG := Lib.hid ho.gx
  replace HB := bel_tr HB hb
  replace HX := Lib.hid (HX.out.keep hb)
  clear hb ho
  go_wp2_with fail
  refine (HT2.out _ _ _ _ _ HX.out HG.out).mono ?_
  rintro e w3 ⟨rfl, hb⟩
  replace HB := bel_tr HB hb
  replace HX := Lib.hid (HX.out.keep hb)
  clear hb HT2 HG
  go_wp2_with fail
  refine (HO1.out _ HX.out).mono ?_
  rintro e w4 ⟨x', y', u', v', rfl, ho, hb⟩
  have HG := Lib.hid ho.gx
  replace HB := bel_tr HB hb
  clear hb ho HX HO1
  go_wp2_with fail
  refine (HV2.out _ _ _ _ _ HG.out).mono ?_
  rintro e w5 ⟨rfl, hb⟩
  replace HB := bel_tr HB hb
  clear hb HG HV2
  go_wp2_with fail
  refine (known_any _).mono ?_
  rintro e w99 ⟨rfl, hb⟩
  replace HB := bel_tr HB hb
  clear hb
  go_wp2_with fail
  go_ret
  exact ⟨rfl, HB.out⟩
theorem join_yes {a b : List Nt} (ha : validS a = true) (hb : validS b = true) (h : agS a b = true) : joinP a b = (joinL a b, 0) := by
  unfold joinP
  rw [if_pos (by rw [ha, hb]; rfl), if_pos h]
theorem in_yes {a b : List Nt} (ha : validS a = true) (hb : validS b = true) (h : agS a b = true) : inP a b = (decide (joinL a b = b), 0) := by
  unfold inP
  rw [join_yes ha hb h]
  rfl
theorem diff_yes {l : List Nt} {d : Gt} (h : validS l = true) (h2 : validG d = true) : diffB l d = (diffG l d, 0) := by
  unfold diffB
  rw [if_pos (by rw [h, h2]; rfl)]
theorem diff_len (l : List Nt) (d : Gt) : (diffG l d).length ≤ l.length := List.length_filter_le _ _
/-- All that the law asks of two states that agree. -/
structure Hs (a b J D : List Nt) (x y z : Gt) (t : Bool) : Prop where
  ag : agP a b = (true, 0)
  oa : ofB a = (x, 0)
  ob : ofB b = (y, 0)
  oj : ofB J = (z, 0)
  da : diffB a y = (D, 0)
  dd : diffB a x = ([], 0)
  j1 : joinP a b = (J, 0)
  j2 : joinP b D = (J, 0)
  i1 : inP D a = (true, 0)
  i2 : inP a b = (t, 0)
  mg : mergB x y = (z, 0)
  wi : withG x y = (t, 0)
  lx : GL 400000 x
  ly : GL 400000 y
  lz : GL 400000 z
  lJ : J.length ≤ 1000
  lD : D.length ≤ 1000
theorem hs_of {a b : List Nt} (ha : validS a = true) (hb : validS b = true) (h : agS a b = true) (la : a.length ≤ 40) (lb : b.length ≤ 40) : Hs a b (joinL a b) (diffG a (ofG b)) (ofG a) (ofG b) (ofG (joinL a b)) (withinG (ofG a) (ofG b)) := by
  have hd := diff_valid ha (ofG b)
  have hg := diff_ag ha hb h (ofG b)
  have hj := join_valid ha hb h
  have va := of_validG ha
  have vb := of_validG hb
  have lJ : (joinL a b).length ≤ 1000 := by have := joinL_len a b; omega
  refine ⟨?_, ofB_yes ha, ofB_yes hb, ofB_yes hj, diff_yes ha vb, ?_, join_yes ha hb h, ?_, ?_, ?_, ?_, ?_, (of_len ha).mono (by omega), (of_len hb).mono (by omega), (of_len hj).mono (by omega), lJ, by have := diff_len a (ofG b); omega⟩
  · unfold agP; rw [if_pos (by rw [ha, hb]; rfl), h]
  · rw [diff_yes ha va, diff_self ha]
  · rw [join_yes hb hd hg, diff_join ha hb h]
  · obtain ⟨h1, h2⟩ := diff_in ha (ofG b)
    rw [in_yes hd ha h1, h2, decide_eq_true rfl]
  · rw [in_yes ha hb h, in_iff ha hb h]
  · unfold mergB; rw [if_pos (by rw [va, vb]; rfl), of_join ha hb h]
  · unfold withG; rw [if_pos (by rw [va, vb]; rfl)]
theorem ag_no {a b : List Nt} (h : ¬ (validS a = true ∧ validS b = true ∧ agS a b = true)) : ∃ z, agP a b = (false, z) := by
  unfold agP
  by_cases h1 : (validS a && validS b) = true
  · rw [if_pos h1]
    rw [Bool.and_eq_true] at h1
    have h2 : agS a b = false := by rw [← Bool.not_eq_true]; exact fun h3 => h ⟨h1.1, h1.2, h3⟩
    rw [h2]
    exact ⟨_, rfl⟩
  · rw [if_neg h1]
    exact ⟨_, rfl⟩
set_option maxRecDepth 100000 in
set_option maxHeartbeats 8000000 in
theorem holds_law (xs ys : List Nt) (a b : Option Addr) (c e : Nat) (w : World) (hfx : ∀ x ∈ xs, fitN x) (hfy : ∀ x ∈ ys, fitN x) (hx : Sl w a xs.length c xs) (hy : Sl w b ys.length e ys) :
    Calls Try.prog 4 #[.slice a xs.length c, .slice b ys.length e] w fun e' w' => e' = .returned (.bool true) ∧ Below w.heap.size w w' := by
  have HB := Lib.hid (Below.refl w.heap.size w)
  by_cases hl : 40 < xs.length
  · have hl2 : (40 : Int) < (xs.length : Int) := by omega
    clear hl hx hy hfx hfy
    go_enter Try.func4, Try.ntmps4
    go_wp2_with fail
    refine (known_any _).mono ?_
    rintro e w99 ⟨rfl, hb⟩
    replace HB := bel_tr HB hb
    clear hb
    go_wp2_with fail
    go_ret
    exact ⟨rfl, HB.out⟩
  have hl2 : ¬ (40 : Int) < (xs.length : Int) := by omega
  by_cases hl' : 40 < ys.length
  · have hl3 : (40 : Int) < (ys.length : Int) := by omega
    clear hl hl' hx hy hfx hfy
    go_enter Try.func4, Try.ntmps4
    go_wp2_with fail
    refine (known_any _).mono ?_
    rintro e w99 ⟨rfl, hb⟩
    replace HB := bel_tr HB hb
    clear hb
    go_wp2_with fail
    go_ret
    exact ⟨rfl, HB.out⟩
  have hl3 : ¬ (40 : Int) < (ys.length : Int) := by omega
  have HX := Lib.hid hx
  have HY := Lib.hid hy
  by_cases hok : validS xs = true ∧ validS ys = true ∧ agS xs ys = true
  case neg =>
    obtain ⟨z, hz⟩ := ag_no hok
    have HA := Lib.hid (fun w (h1 : Sl w a xs.length c xs) (h2 : Sl w b ys.length e ys) => agree_any xs ys a b c e w h1.r h1.z h1.c h2.r h2.z h2.c (by omega) (by omega))
    rw [hz] at HA
    clear hx hy hl hl' hok hz hfx hfy
    go_enter Try.func4, Try.ntmps4
    go_wp2_with fail
    refine (HA.out _ HX.out HY.out).mono ?_
    rintro e w1 ⟨rfl, hb⟩
    replace HB := bel_tr HB hb
    clear hb HA HX HY
    go_wp2_with fail
    refine (known_any _).mono ?_
    rintro e w99 ⟨rfl, hb⟩
    replace HB := bel_tr HB hb
    clear hb
    go_wp2_with fail
    go_ret
    exact ⟨rfl, HB.out⟩
  obtain ⟨hv1, hv2, hag⟩ := hok
  have HH := Lib.hid (hs_of hv1 hv2 hag (by omega) (by omega))
  clear hv1 hv2 hag
  generalize joinL xs ys = J at *
  generalize diffG xs (ofG ys) = Df at *
  generalize ofG xs = gx at *
  generalize ofG ys = gy at *
  generalize ofG J = gj at *
  generalize withinG gx gy = t at *
  have HA := Lib.hid (fun w (h1 : Sl w a xs.length c xs) (h2 : Sl w b ys.length e ys) => agree_any xs ys a b c e w h1.r h1.z h1.c h2.r h2.z h2.c (by omega) (by omega))
  rw [HH.out.ag] at HA
  have HO1 := Lib.hid (fun w h => gof_any xs a c w h (by omega))
  rw [HH.out.oa] at HO1
  have HO2 := Lib.hid (fun w h => gof_any ys b e w h (by omega))
  rw [HH.out.ob] at HO2
  have HO3 := Lib.hid (fun p j w h => gof_any J p j w h (by have := HH.out.lJ; omega))
  rw [HH.out.oj] at HO3
  have HD := Lib.hid (fun x y u v w h h2 => gdiff_any xs a c gy x y u v w hfx h (by omega) h2 HH.out.ly)
  rw [HH.out.da] at HD
  have HT1 := Lib.hid (fun (w : World) (x y u v : Value) (h1 : RowN w a xs) (h2 : Gx w x y u v gx) => diffs_true (c := c) (e := 0) (b := none) HH.out.dd rfl (m := 0) rfl hfx h1 (by omega) h2 HH.out.lx (RowN.nil _ _) (by simp))
  have HJ1 := Lib.hid (fun w (h1 : Sl w a xs.length c xs) (h2 : Sl w b ys.length e ys) => join_any xs ys a b c e w h1.r h1.z h1.c h2.r h2.z h2.c (by omega) (by omega))
  rw [HH.out.j1] at HJ1
  have HJ2 := Lib.hid (fun p j w (h1 : Sl w b ys.length e ys) (h2 : Sl w p Df.length j Df) => join_any ys Df b p e j w h1.r h1.z h1.c h2.r h2.z h2.c (by omega) (by have := HH.out.lD; omega))
  rw [HH.out.j2] at HJ2
  have HI1 := Lib.hid (fun p j w (h1 : Sl w p Df.length j Df) (h2 : Sl w a xs.length c xs) => within_any Df xs p a j c w h1.r h1.z h1.c h2.r h2.z h2.c (by have := HH.out.lD; omega) (by omega))
  rw [HH.out.i1] at HI1
  have HI2 := Lib.hid (fun w (h1 : Sl w a xs.length c xs) (h2 : Sl w b ys.length e ys) => within_any xs ys a b c e w h1.r h1.z h1.c h2.r h2.z h2.c (by omega) (by omega))
  rw [HH.out.i2] at HI2
  have HSm := Lib.hid (fun p q i j w h1 h2 => same_ref J J p q i j w h1 h2 (by have := HH.out.lJ; omega) (by have := HH.out.lJ; omega))
  rw [decide_eq_true rfl] at HSm
  have HMg := Lib.hid (fun (w : World) (x y u v s t o q i j k r : Value) (h1 : Gx w x y u v gx) (h2 : Gx w s t o q gy) (h3 : Gx w i j k r gj) => merges_true HH.out.mg h1 HH.out.lx h2 HH.out.ly h3 (HH.out.lz.mono (by decide)))
  have HWi := Lib.hid (fun (w : World) (x y u v s t o q : Value) (h1 : Gx w x y u v gx) (h2 : Gx w s t o q gy) => withins_true HH.out.wi h1 HH.out.lx h2 HH.out.ly)
  clear hx hy hl hl' hfx hfy HH
  go_enter Try.func4, Try.ntmps4
  go_wp2_with fail
  refine (HA.out _ HX.out HY.out).mono ?_
  rintro e w1 ⟨rfl, hb⟩
  replace HX := Lib.hid (HX.out.keep hb)
  replace HY := Lib.hid (HY.out.keep hb)
  replace HB := bel_tr HB hb
  clear hb HA
  go_wp2_with fail
  refine (HO1.out _ HX.out.r).mono ?_
  rintro e vx ⟨x', y', u', v', rfl, ho, hb⟩
  have HGx := Lib.hid ho.gx
  obtain ⟨⟨⟨a1, n1, rfl, -⟩, a2, n2, rfl, -⟩, ⟨a3, n3, rfl, -⟩, a4, n4, rfl, -⟩ := HGx.out
  replace HX := Lib.hid (HX.out.keep hb)
  replace HY := Lib.hid (HY.out.keep hb)
  replace HB := bel_tr HB hb
  clear hb ho
  have hb := bel_box vx (gbox (.slice a1 gx.1.1.length n1) (.slice a2 gx.1.2.length n2) (.slice a3 gx.2.1.length n3) (.slice a4 gx.2.2.length n4))
  have HTx := Lib.hid (four_new vx (.slice a1 gx.1.1.length n1) (.slice a2 gx.1.2.length n2) (.slice a3 gx.2.1.length n3) (.slice a4 gx.2.2.length n4))
  replace HGx := Lib.hid (HGx.out.keep hb)
  replace HX := Lib.hid (HX.out.keep hb)
  replace HY := Lib.hid (HY.out.keep hb)
  replace HB := bel_tr HB hb
  clear hb
  go_upto_region 7 with fail
  generalize vx.alloc (gbox (.slice a1 gx.1.1.length n1) (.slice a2 gx.1.2.length n2) (.slice a3 gx.2.1.length n3) (.slice a4 gx.2.2.length n4)) = vxb at *
  generalize vx.heap.size = gx at *
  clear HO1
  go_wp2_with fail
  refine (HO2.out _ HY.out.r).mono ?_
  rintro e vy ⟨x', y', u', v', rfl, ho, hb⟩
  have HGy := Lib.hid ho.gx
  obtain ⟨⟨⟨a5, n5, rfl, -⟩, a6, n6, rfl, -⟩, ⟨a7, n7, rfl, -⟩, a8, n8, rfl, -⟩ := HGy.out
  replace HX := Lib.hid (HX.out.keep hb)
  replace HY := Lib.hid (HY.out.keep hb)
  replace HGx := Lib.hid (HGx.out.keep hb)
  replace HTx := Lib.hid (HTx.out.keep hb)
  replace HB := bel_tr HB hb
  clear hb ho
  have hb := bel_box vy (gbox (.slice a5 gy.1.1.length n5) (.slice a6 gy.1.2.length n6) (.slice a7 gy.2.1.length n7) (.slice a8 gy.2.2.length n8))
  have HTy := Lib.hid (four_new vy (.slice a5 gy.1.1.length n5) (.slice a6 gy.1.2.length n6) (.slice a7 gy.2.1.length n7) (.slice a8 gy.2.2.length n8))
  replace HGy := Lib.hid (HGy.out.keep hb)
  replace HX := Lib.hid (HX.out.keep hb)
  replace HY := Lib.hid (HY.out.keep hb)
  replace HGx := Lib.hid (HGx.out.keep hb)
  replace HTx := Lib.hid (HTx.out.keep hb)
  replace HB := bel_tr HB hb
  clear hb
  go_upto_region 8 with fail
  generalize vy.alloc (gbox (.slice a5 gy.1.1.length n5) (.slice a6 gy.1.2.length n6) (.slice a7 gy.2.1.length n7) (.slice a8 gy.2.2.length n8)) = vyb at *
  generalize vy.heap.size = gy at *
  clear HO2
  have k0 := HTy.out.1.1
  have k1 := HTy.out.1.2
  have k2 := HTy.out.2.1
  have k3 := HTy.out.2.2
  go_wp2_with fail
  refine (HD.out _ _ _ _ _ HX.out.r HGy.out).mono ?_
  rintro e w2 ⟨v', rfl, ho, hb⟩
  obtain ⟨pDf, cDf, rfl, hr, hn, hc, -⟩ := ON.row ho
  have HDf := Lib.hid (show Sl w2 pDf _ cDf _ from ⟨rfl, hr, fun h => (hn h).1, hc⟩)
  replace HX := Lib.hid (HX.out.keep hb)
  replace HY := Lib.hid (HY.out.keep hb)
  replace HGx := Lib.hid (HGx.out.keep hb)
  replace HTx := Lib.hid (HTx.out.keep hb)
  replace HGy := Lib.hid (HGy.out.keep hb)
  replace HTy := Lib.hid (HTy.out.keep hb)
  replace HB := bel_tr HB hb
  clear hb ho hr hn hc HD k0 k1 k2 k3
  have k0 := HTx.out.1.1
  have k1 := HTx.out.1.2
  have k2 := HTx.out.2.1
  have k3 := HTx.out.2.2
  go_wp2_with fail
  refine (HT1.out _ _ _ _ _ HX.out.r HGx.out).mono ?_
  rintro e w3 ⟨rfl, hb⟩
  replace HX := Lib.hid (HX.out.keep hb)
  replace HY := Lib.hid (HY.out.keep hb)
  replace HGx := Lib.hid (HGx.out.keep hb)
  replace HTx := Lib.hid (HTx.out.keep hb)
  replace HGy := Lib.hid (HGy.out.keep hb)
  replace HTy := Lib.hid (HTy.out.keep hb)
  replace HDf := Lib.hid (HDf.out.keep hb)
  replace HB := bel_tr HB hb
  clear hb HT1 k0 k1 k2 k3
  go_wp2_with fail
  refine (HJ1.out _ HX.out HY.out).mono ?_
  rintro e w4 ⟨v', rfl, ho, hb⟩
  obtain ⟨pJ, cJ, rfl, hr, hn, hc, -⟩ := ON.row ho
  have HJ := Lib.hid (show Sl w4 pJ _ cJ _ from ⟨rfl, hr, fun h => (hn h).1, hc⟩)
  replace HX := Lib.hid (HX.out.keep hb)
  replace HY := Lib.hid (HY.out.keep hb)
  replace HGx := Lib.hid (HGx.out.keep hb)
  replace HTx := Lib.hid (HTx.out.keep hb)
  replace HGy := Lib.hid (HGy.out.keep hb)
  replace HTy := Lib.hid (HTy.out.keep hb)
  replace HDf := Lib.hid (HDf.out.keep hb)
  replace HB := bel_tr HB hb
  clear hb ho hr hn hc HJ1
  go_wp2_with fail
  refine (HJ2.out _ _ _ HY.out HDf.out).mono ?_
  rintro e w5 ⟨v', rfl, ho, hb⟩
  obtain ⟨pL, cL, rfl, hr, hn, hc, -⟩ := ON.row ho
  have HL := Lib.hid (show Sl w5 pL _ cL _ from ⟨rfl, hr, fun h => (hn h).1, hc⟩)
  replace HX := Lib.hid (HX.out.keep hb)
  replace HY := Lib.hid (HY.out.keep hb)
  replace HGx := Lib.hid (HGx.out.keep hb)
  replace HTx := Lib.hid (HTx.out.keep hb)
  replace HGy := Lib.hid (HGy.out.keep hb)
  replace HTy := Lib.hid (HTy.out.keep hb)
  replace HDf := Lib.hid (HDf.out.keep hb)
  replace HJ := Lib.hid (HJ.out.keep hb)
  replace HB := bel_tr HB hb
  clear hb ho hr hn hc HJ2
  go_wp2_with fail
  refine (HI1.out _ _ _ HDf.out HX.out).mono ?_
  rintro e w6 ⟨rfl, hb⟩
  replace HX := Lib.hid (HX.out.keep hb)
  replace HY := Lib.hid (HY.out.keep hb)
  replace HGx := Lib.hid (HGx.out.keep hb)
  replace HTx := Lib.hid (HTx.out.keep hb)
  replace HGy := Lib.hid (HGy.out.keep hb)
  replace HTy := Lib.hid (HTy.out.keep hb)
  replace HDf := Lib.hid (HDf.out.keep hb)
  replace HJ := Lib.hid (HJ.out.keep hb)
  replace HL := Lib.hid (HL.out.keep hb)
  replace HB := bel_tr HB hb
  clear hb HI1
  go_wp2_with fail
  refine (HSm.out _ _ _ _ _ HJ.out.r HL.out.r).mono ?_
  rintro e w7 ⟨rfl, hb⟩
  replace HX := Lib.hid (HX.out.keep hb)
  replace HY := Lib.hid (HY.out.keep hb)
  replace HGx := Lib.hid (HGx.out.keep hb)
  replace HTx := Lib.hid (HTx.out.keep hb)
  replace HGy := Lib.hid (HGy.out.keep hb)
  replace HTy := Lib.hid (HTy.out.keep hb)
  replace HDf := Lib.hid (HDf.out.keep hb)
  replace HJ := Lib.hid (HJ.out.keep hb)
  replace HL := Lib.hid (HL.out.keep hb)
  replace HB := bel_tr HB hb
  clear hb HSm HL HDf
  go_wp2_with fail
  refine (HO3.out _ _ _ HJ.out.r).mono ?_
  rintro e vz ⟨x', y', u', v', rfl, ho, hb⟩
  have HGz := Lib.hid ho.gx
  obtain ⟨⟨⟨a9, n9, rfl, -⟩, a10, n10, rfl, -⟩, ⟨a11, n11, rfl, -⟩, a12, n12, rfl, -⟩ := HGz.out
  replace HX := Lib.hid (HX.out.keep hb)
  replace HY := Lib.hid (HY.out.keep hb)
  replace HGx := Lib.hid (HGx.out.keep hb)
  replace HTx := Lib.hid (HTx.out.keep hb)
  replace HGy := Lib.hid (HGy.out.keep hb)
  replace HTy := Lib.hid (HTy.out.keep hb)
  replace HJ := Lib.hid (HJ.out.keep hb)
  replace HB := bel_tr HB hb
  clear hb ho
  have hb := bel_box vz (gbox (.slice a9 gj.1.1.length n9) (.slice a10 gj.1.2.length n10) (.slice a11 gj.2.1.length n11) (.slice a12 gj.2.2.length n12))
  have HTz := Lib.hid (four_new vz (.slice a9 gj.1.1.length n9) (.slice a10 gj.1.2.length n10) (.slice a11 gj.2.1.length n11) (.slice a12 gj.2.2.length n12))
  replace HGz := Lib.hid (HGz.out.keep hb)
  replace HX := Lib.hid (HX.out.keep hb)
  replace HY := Lib.hid (HY.out.keep hb)
  replace HGx := Lib.hid (HGx.out.keep hb)
  replace HTx := Lib.hid (HTx.out.keep hb)
  replace HGy := Lib.hid (HGy.out.keep hb)
  replace HTy := Lib.hid (HTy.out.keep hb)
  replace HJ := Lib.hid (HJ.out.keep hb)
  replace HB := bel_tr HB hb
  clear hb
  go_upto_region 17 with fail
  generalize vz.alloc (gbox (.slice a9 gj.1.1.length n9) (.slice a10 gj.1.2.length n10) (.slice a11 gj.2.1.length n11) (.slice a12 gj.2.2.length n12)) = vzb at *
  generalize vz.heap.size = gz at *
  clear HO3 HJ
  go_wp2_with fail
  refine (HI2.out _ HX.out HY.out).mono ?_
  rintro e w8 ⟨rfl, hb⟩
  replace HX := Lib.hid (HX.out.keep hb)
  replace HY := Lib.hid (HY.out.keep hb)
  replace HGx := Lib.hid (HGx.out.keep hb)
  replace HTx := Lib.hid (HTx.out.keep hb)
  replace HGy := Lib.hid (HGy.out.keep hb)
  replace HTy := Lib.hid (HTy.out.keep hb)
  replace HGz := Lib.hid (HGz.out.keep hb)
  replace HTz := Lib.hid (HTz.out.keep hb)
  replace HB := bel_tr HB hb
  clear hb HI2
  have k0 := HTx.out.1.1
  have k1 := HTx.out.1.2
  have k2 := HTx.out.2.1
  have k3 := HTx.out.2.2
  have l0 := HTy.out.1.1
  have l1 := HTy.out.1.2
  have l2 := HTy.out.2.1
  have l3 := HTy.out.2.2
  have m0 := HTz.out.1.1
  have m1 := HTz.out.1.2
  have m2 := HTz.out.2.1
  have m3 := HTz.out.2.2
  go_wp2_with fail
  refine (HMg.out _ _ _ _ _ _ _ _ _ _ _ _ _ HGx.out HGy.out HGz.out).mono ?_
  rintro e w9 ⟨rfl, hb⟩
  replace HX := Lib.hid (HX.out.keep hb)
  replace HY := Lib.hid (HY.out.keep hb)
  replace HGx := Lib.hid (HGx.out.keep hb)
  replace HTx := Lib.hid (HTx.out.keep hb)
  replace HGy := Lib.hid (HGy.out.keep hb)
  replace HTy := Lib.hid (HTy.out.keep hb)
  replace HGz := Lib.hid (HGz.out.keep hb)
  replace HTz := Lib.hid (HTz.out.keep hb)
  replace HB := bel_tr HB hb
  clear hb HMg k0 k1 k2 k3 l0 l1 l2 l3 m0 m1 m2 m3
  have k0 := HTx.out.1.1
  have k1 := HTx.out.1.2
  have k2 := HTx.out.2.1
  have k3 := HTx.out.2.2
  have l0 := HTy.out.1.1
  have l1 := HTy.out.1.2
  have l2 := HTy.out.2.1
  have l3 := HTy.out.2.2
  go_wp2_with fail
  refine (HWi.out _ _ _ _ _ _ _ _ _ HGx.out HGy.out).mono ?_
  rintro e w10 ⟨rfl, hb⟩
  replace HX := Lib.hid (HX.out.keep hb)
  replace HY := Lib.hid (HY.out.keep hb)
  replace HGx := Lib.hid (HGx.out.keep hb)
  replace HTx := Lib.hid (HTx.out.keep hb)
  replace HGy := Lib.hid (HGy.out.keep hb)
  replace HTy := Lib.hid (HTy.out.keep hb)
  replace HGz := Lib.hid (HGz.out.keep hb)
  replace HTz := Lib.hid (HTz.out.keep hb)
  replace HB := bel_tr HB hb
  clear hb HWi k0 k1 k2 k3 l0 l1 l2 l3
  go_wp2_with fail
  refine (known_any _).mono ?_
  rintro e w99 ⟨rfl, hb⟩
  replace HB := bel_tr HB hb
  clear hb
  go_wp2_with fail
  go_ret
  exact ⟨rfl, HB.out⟩
end Go.Proofs.Ytgopkffgljiblaa.Dg
