/-
  Layer 16: the laws' helpers.
-/
import Derived.Test.YtgopkffgljiblaaGreatDgD
namespace Go.Proofs.YtgopkffgljiblaaGreat.Dg
set_option linter.unusedVariables false
open Go.RowKit V Go.Sort D Nd Qs Jn
open E (SV)
open F (Ct cv cbox Bc)
attribute [local irreducible] Sch.heldN Sch.stepV Sch.stepE

theorem gb_bel {w w1 : World} {B g : Nat} (h : w.grownBy w1 (some g)) (hB : B ≤ g) (hw : B ≤ w.heap.size) : Below B w w1 := ⟨h.os, h.tape, h.output, h.size, fun b hb => h.block b (by omega) (by simp; omega)⟩
set_option maxRecDepth 100000 in
set_option maxHeartbeats 2000000 in
theorem dot_law (x y : Int) (w : World) : Calls Tryz.prog 24 #[.int .i64 x, .int .i64 y] w fun e w' => e = .returned (dv (x, y)) ∧ Below w.heap.size w w' := by
  have hb := bel_box w (.cells #[.int .i64 0, .int .i64 0] 48)
  have c0 : (w.alloc (.cells #[.int .i64 0, .int .i64 0] 48)).cell? ⟨w.heap.size, 0, none⟩ = some (.int .i64 0) := by go_simp
  have c1 : (w.alloc (.cells #[.int .i64 0, .int .i64 0] 48)).cell? ⟨w.heap.size, 1, none⟩ = some (.int .i64 0) := by go_simp
  have f0 : (w.alloc (.cells #[.int .i64 0, .int .i64 0] 48)).frozen? ⟨w.heap.size, 0, none⟩ = false := by go_simp
  have f1 : (w.alloc (.cells #[.int .i64 0, .int .i64 0] 48)).frozen? ⟨w.heap.size, 1, none⟩ = false := by go_simp
  have HB := Lib.hid hb
  clear hb
  go_enter Tryz.func24, Tryz.ntmps24
  go_upto_region 1 with fail
  generalize w.alloc (.cells #[.int .i64 0, .int .i64 0] 48) = w1 at *
  go_wp2_with fail
  (try simp only [Exit.inBlock, Exit.then])
  refine bodyPost_ret (v := .agg #[.int .i64 x, .int .i64 y]) (by rw [results_cell1 (fn := Tryz.f24) (p := 4) (ty := 48) rfl]; go_simp) rfl ?_
  exact ⟨rfl, (HB.out.setCell (p := ⟨w.heap.size, 0, none⟩) (Nat.le_refl _) _).setCell (p := ⟨w.heap.size, 1, none⟩) (Nat.le_refl _) _⟩
set_option maxRecDepth 100000 in
set_option maxHeartbeats 4000000 in
theorem ofs_true {l : List Nt} {D : Gt} {z : Int} {k : Nat} {a : Option Addr} {c : Nat} {x y u v : Value} {w : World} (h : ofB l = (D, z)) (hk : k = l.length) (hx : RowN w a l) (hlx : l.length ≤ 300000) (hd : Gx w x y u v D) (hD : GL 1000000 D) :
    Calls Tryz.prog 25 #[.slice a k c, gv x y u v, .int .i64 z] w fun e w' => e = .returned (.bool true) ∧ Below w.heap.size w w' := by
  subst hk
  have HO := Lib.hid (fun w h => gof_any l a c w h hlx)
  rw [h] at HO
  have HSm := Lib.hid (fun w x' y' u' v' (h1 : Gx w x' y' u' v' D) (h2 : Gx w x y u v D) => gsame_ref D D x' y' u' v' x y u v w h1 h2 hD hD)
  rw [decide_eq_true rfl] at HSm
  have HX := Lib.hid hx
  have HG := Lib.hid hd
  obtain ⟨⟨⟨a1, n1, rfl, -⟩, a2, n2, rfl, -⟩, ⟨a3, n3, rfl, -⟩, a4, n4, rfl, -⟩ := hd
  clear hx hlx h hD
  have hb0 := bel_box w (gbox (.slice a1 D.1.1.length n1) (.slice a2 D.1.2.length n2) (.slice a3 D.2.1.length n3) (.slice a4 D.2.2.length n4))
  have HT := Lib.hid (four_new w (.slice a1 D.1.1.length n1) (.slice a2 D.1.2.length n2) (.slice a3 D.2.1.length n3) (.slice a4 D.2.2.length n4))
  have HB := Lib.hid hb0
  replace HG := Lib.hid (HG.out.keep hb0)
  replace HX := Lib.hid (HX.out.keep hb0)
  clear hb0
  go_enter Tryz.func25, Tryz.ntmps25
  go_upto_region 1 with fail
  generalize w.alloc (gbox (.slice a1 D.1.1.length n1) (.slice a2 D.1.2.length n2) (.slice a3 D.2.1.length n3) (.slice a4 D.2.2.length n4)) = w1 at *
  go_wp2_with fail
  refine (HO.out _ HX.out).mono ?_
  rintro e w2 ⟨x', y', u', v', rfl, ho, hb⟩
  have HR := Lib.hid ho.gx
  obtain ⟨⟨⟨a5, n5, rfl, -⟩, a6, n6, rfl, -⟩, ⟨a7, n7, rfl, -⟩, a8, n8, rfl, -⟩ := HR.out
  replace HG := Lib.hid (HG.out.keep hb)
  replace HT := Lib.hid (HT.out.keep hb)
  replace HB := bel_tr HB hb
  clear hb ho HO HX
  have hb := bel_box w2 (gbox (.slice a5 D.1.1.length n5) (.slice a6 D.1.2.length n6) (.slice a7 D.2.1.length n7) (.slice a8 D.2.2.length n8))
  have HU := Lib.hid (four_new w2 (.slice a5 D.1.1.length n5) (.slice a6 D.1.2.length n6) (.slice a7 D.2.1.length n7) (.slice a8 D.2.2.length n8))
  replace HR := Lib.hid (HR.out.keep hb)
  replace HG := Lib.hid (HG.out.keep hb)
  replace HT := Lib.hid (HT.out.keep hb)
  replace HB := bel_tr HB hb
  clear hb
  go_upto_region 2 with fail
  generalize w2.alloc (gbox (.slice a5 D.1.1.length n5) (.slice a6 D.1.2.length n6) (.slice a7 D.2.1.length n7) (.slice a8 D.2.2.length n8)) = w3 at *
  generalize w2.heap.size = g2 at *
  have k0 := HT.out.1.1
  have k1 := HT.out.1.2
  have k2 := HT.out.2.1
  have k3 := HT.out.2.2
  have l0 := HU.out.1.1
  have l1 := HU.out.1.2
  have l2 := HU.out.2.1
  have l3 := HU.out.2.2
  go_wp2_with fail
  refine (HSm.out _ _ _ _ _ HR.out HG.out).mono ?_
  rintro e w4 ⟨rfl, hb⟩
  replace HB := bel_tr HB hb
  clear hb HSm HR HG HT HU k0 k1 k2 k3 l0 l1 l2 l3
  go_wp2_with fail
  go_ret
  exact ⟨rfl, HB.out⟩
set_option maxRecDepth 100000 in
set_option maxHeartbeats 4000000 in
theorem diffs_true {l Z : List Nt} {D : Gt} {z : Int} {k m : Nat} {a b : Option Addr} {c e : Nat} {x y u v : Value} {w : World} (h : diffB l D = (Z, z)) (hk : k = l.length) (hm : m = Z.length) (hf : ∀ x ∈ l, fitN x) (hx : RowN w a l) (hlx : l.length ≤ 300000) (hd : Gx w x y u v D) (hD : GL 400000 D) (hz : RowN w b Z) (hlz : Z.length ≤ 300000) :
    Calls Tryz.prog 17 #[.slice a k c, gv x y u v, .slice b m e, .int .i64 z] w fun e w' => e = .returned (.bool true) ∧ Below w.heap.size w w' := by
  subst hk; subst hm
  have HO := Lib.hid (fun w h h2 => gdiff_any l a c D x y u v w hf h hlx h2 hD)
  rw [h] at HO
  have HSm := Lib.hid (fun p j w h1 h2 => same_ref Z Z p b j e w h1 h2 (by omega) (by omega))
  rw [decide_eq_true rfl] at HSm
  have HX := Lib.hid hx
  have HZ := Lib.hid hz
  have HG := Lib.hid hd
  obtain ⟨⟨⟨a1, n1, rfl, -⟩, a2, n2, rfl, -⟩, ⟨a3, n3, rfl, -⟩, a4, n4, rfl, -⟩ := hd
  clear hx hlx h hD hz hlz hf
  have hb0 := bel_box w (gbox (.slice a1 D.1.1.length n1) (.slice a2 D.1.2.length n2) (.slice a3 D.2.1.length n3) (.slice a4 D.2.2.length n4))
  have HT := Lib.hid (four_new w (.slice a1 D.1.1.length n1) (.slice a2 D.1.2.length n2) (.slice a3 D.2.1.length n3) (.slice a4 D.2.2.length n4))
  have HB := Lib.hid hb0
  replace HG := Lib.hid (HG.out.keep hb0)
  replace HX := Lib.hid (HX.out.keep hb0)
  replace HZ := Lib.hid (HZ.out.keep hb0)
  clear hb0
  go_enter Tryz.func17, Tryz.ntmps17
  go_upto_region 1 with fail
  generalize w.alloc (gbox (.slice a1 D.1.1.length n1) (.slice a2 D.1.2.length n2) (.slice a3 D.2.1.length n3) (.slice a4 D.2.2.length n4)) = w1 at *
  have k0 := HT.out.1.1
  have k1 := HT.out.1.2
  have k2 := HT.out.2.1
  have k3 := HT.out.2.2
  go_wp2_with fail
  refine (HO.out _ HX.out HG.out).mono ?_
  rintro e w2 ⟨v', rfl, ho, hb⟩
  obtain ⟨p, j, rfl, hr, -⟩ := ON.row ho
  have HR := Lib.hid hr
  replace HZ := Lib.hid (HZ.out.keep hb)
  replace HT := Lib.hid (HT.out.keep hb)
  replace HB := bel_tr HB hb
  clear hb ho HO HX hr k0 k1 k2 k3
  go_wp2_with fail
  refine (HSm.out _ _ _ HR.out HZ.out).mono ?_
  rintro e w4 ⟨rfl, hb⟩
  replace HB := bel_tr HB hb
  clear hb HSm HR HG HT HZ
  go_wp2_with fail
  go_ret
  exact ⟨rfl, HB.out⟩
set_option maxRecDepth 100000 in
set_option maxHeartbeats 4000000 in
theorem merges_true {D E M : Gt} {z : Int} {x y u v s t o q i j k r : Value} {w : World} (h : mergB D E = (M, z)) (hd : Gx w x y u v D) (hD : GL 400000 D) (he : Gx w s t o q E) (hE : GL 400000 E) (hm : Gx w i j k r M) (hM : GL 1000000 M) :
    Calls Tryz.prog 12 #[gv x y u v, gv s t o q, gv i j k r, .int .i64 z] w fun e w' => e = .returned (.bool true) ∧ Below w.heap.size w w' := by
  have HO := Lib.hid (fun w h h2 => gmerge_any D E x y u v s t o q w h h2 hD hE)
  rw [h] at HO
  have HSm := Lib.hid (fun w x' y' u' v' (h1 : Gx w x' y' u' v' M) (h2 : Gx w i j k r M) => gsame_ref M M x' y' u' v' i j k r w h1 h2 hM hM)
  rw [decide_eq_true rfl] at HSm
  have HG := Lib.hid hd
  have HH := Lib.hid he
  have HM := Lib.hid hm
  obtain ⟨⟨⟨a1, n1, rfl, -⟩, a2, n2, rfl, -⟩, ⟨a3, n3, rfl, -⟩, a4, n4, rfl, -⟩ := hd
  obtain ⟨⟨⟨a5, n5, rfl, -⟩, a6, n6, rfl, -⟩, ⟨a7, n7, rfl, -⟩, a8, n8, rfl, -⟩ := he
  obtain ⟨⟨⟨a9, n9, rfl, -⟩, a10, n10, rfl, -⟩, ⟨a11, n11, rfl, -⟩, a12, n12, rfl, -⟩ := hm
  clear h hD hE hM
  have hb0 := bel_box w (gbox (.slice a1 D.1.1.length n1) (.slice a2 D.1.2.length n2) (.slice a3 D.2.1.length n3) (.slice a4 D.2.2.length n4))
  have HT := Lib.hid (four_new w (.slice a1 D.1.1.length n1) (.slice a2 D.1.2.length n2) (.slice a3 D.2.1.length n3) (.slice a4 D.2.2.length n4))
  have HB := Lib.hid hb0
  replace HG := Lib.hid (HG.out.keep hb0)
  replace HH := Lib.hid (HH.out.keep hb0)
  replace HM := Lib.hid (HM.out.keep hb0)
  have hb1 := bel_box (w.alloc (gbox (.slice a1 D.1.1.length n1) (.slice a2 D.1.2.length n2) (.slice a3 D.2.1.length n3) (.slice a4 D.2.2.length n4))) (gbox (.slice a5 E.1.1.length n5) (.slice a6 E.1.2.length n6) (.slice a7 E.2.1.length n7) (.slice a8 E.2.2.length n8))
  have HS := Lib.hid (four_new (w.alloc (gbox (.slice a1 D.1.1.length n1) (.slice a2 D.1.2.length n2) (.slice a3 D.2.1.length n3) (.slice a4 D.2.2.length n4))) (.slice a5 E.1.1.length n5) (.slice a6 E.1.2.length n6) (.slice a7 E.2.1.length n7) (.slice a8 E.2.2.length n8))
  have hsz1 : (w.alloc (gbox (.slice a1 D.1.1.length n1) (.slice a2 D.1.2.length n2) (.slice a3 D.2.1.length n3) (.slice a4 D.2.2.length n4))).heap.size = w.heap.size + 1 := by simp
  rw [hsz1] at HS
  replace HT := Lib.hid (HT.out.keep hb1)
  replace HB := bel_tr HB hb1
  replace HG := Lib.hid (HG.out.keep hb1)
  replace HH := Lib.hid (HH.out.keep hb1)
  replace HM := Lib.hid (HM.out.keep hb1)
  have hb2 := bel_box ((w.alloc (gbox (.slice a1 D.1.1.length n1) (.slice a2 D.1.2.length n2) (.slice a3 D.2.1.length n3) (.slice a4 D.2.2.length n4))).alloc (gbox (.slice a5 E.1.1.length n5) (.slice a6 E.1.2.length n6) (.slice a7 E.2.1.length n7) (.slice a8 E.2.2.length n8))) (gbox (.slice a9 M.1.1.length n9) (.slice a10 M.1.2.length n10) (.slice a11 M.2.1.length n11) (.slice a12 M.2.2.length n12))
  have HU := Lib.hid (four_new ((w.alloc (gbox (.slice a1 D.1.1.length n1) (.slice a2 D.1.2.length n2) (.slice a3 D.2.1.length n3) (.slice a4 D.2.2.length n4))).alloc (gbox (.slice a5 E.1.1.length n5) (.slice a6 E.1.2.length n6) (.slice a7 E.2.1.length n7) (.slice a8 E.2.2.length n8))) (.slice a9 M.1.1.length n9) (.slice a10 M.1.2.length n10) (.slice a11 M.2.1.length n11) (.slice a12 M.2.2.length n12))
  have hsz2 : ((w.alloc (gbox (.slice a1 D.1.1.length n1) (.slice a2 D.1.2.length n2) (.slice a3 D.2.1.length n3) (.slice a4 D.2.2.length n4))).alloc (gbox (.slice a5 E.1.1.length n5) (.slice a6 E.1.2.length n6) (.slice a7 E.2.1.length n7) (.slice a8 E.2.2.length n8))).heap.size = w.heap.size + 1 + 1 := by simp
  rw [hsz2] at HU
  replace HT := Lib.hid (HT.out.keep hb2)
  replace HS := Lib.hid (HS.out.keep hb2)
  replace HB := bel_tr HB hb2
  replace HG := Lib.hid (HG.out.keep hb2)
  replace HH := Lib.hid (HH.out.keep hb2)
  replace HM := Lib.hid (HM.out.keep hb2)
  clear hb0 hb1 hb2 hsz1 hsz2
  go_enter Tryz.func12, Tryz.ntmps12
  go_upto_region 1 with fail
  generalize ((w.alloc (gbox (.slice a1 D.1.1.length n1) (.slice a2 D.1.2.length n2) (.slice a3 D.2.1.length n3) (.slice a4 D.2.2.length n4))).alloc (gbox (.slice a5 E.1.1.length n5) (.slice a6 E.1.2.length n6) (.slice a7 E.2.1.length n7) (.slice a8 E.2.2.length n8))).alloc (gbox (.slice a9 M.1.1.length n9) (.slice a10 M.1.2.length n10) (.slice a11 M.2.1.length n11) (.slice a12 M.2.2.length n12)) = w1 at *
  have k0 := HT.out.1.1
  have k1 := HT.out.1.2
  have k2 := HT.out.2.1
  have k3 := HT.out.2.2
  have l0 := HS.out.1.1
  have l1 := HS.out.1.2
  have l2 := HS.out.2.1
  have l3 := HS.out.2.2
  go_wp2_with fail
  refine (HO.out _ HG.out HH.out).mono ?_
  rintro e w2 ⟨x', y', u', v', rfl, ho, hb⟩
  have HR := Lib.hid ho.gx
  obtain ⟨⟨⟨a13, n13, rfl, -⟩, a14, n14, rfl, -⟩, ⟨a15, n15, rfl, -⟩, a16, n16, rfl, -⟩ := HR.out
  replace HM := Lib.hid (HM.out.keep hb)
  replace HT := Lib.hid (HT.out.keep hb)
  replace HS := Lib.hid (HS.out.keep hb)
  replace HU := Lib.hid (HU.out.keep hb)
  replace HB := bel_tr HB hb
  clear hb ho HO HG HH k0 k1 k2 k3 l0 l1 l2 l3
  have hb := bel_box w2 (gbox (.slice a13 M.1.1.length n13) (.slice a14 M.1.2.length n14) (.slice a15 M.2.1.length n15) (.slice a16 M.2.2.length n16))
  have HV := Lib.hid (four_new w2 (.slice a13 M.1.1.length n13) (.slice a14 M.1.2.length n14) (.slice a15 M.2.1.length n15) (.slice a16 M.2.2.length n16))
  replace HR := Lib.hid (HR.out.keep hb)
  replace HM := Lib.hid (HM.out.keep hb)
  replace HT := Lib.hid (HT.out.keep hb)
  replace HS := Lib.hid (HS.out.keep hb)
  replace HU := Lib.hid (HU.out.keep hb)
  replace HB := bel_tr HB hb
  clear hb HT HS
  go_upto_region 2 with fail
  generalize w2.alloc (gbox (.slice a13 M.1.1.length n13) (.slice a14 M.1.2.length n14) (.slice a15 M.2.1.length n15) (.slice a16 M.2.2.length n16)) = w3 at *
  generalize w2.heap.size = g2 at *
  have k0 := HU.out.1.1
  have k1 := HU.out.1.2
  have k2 := HU.out.2.1
  have k3 := HU.out.2.2
  have l0 := HV.out.1.1
  have l1 := HV.out.1.2
  have l2 := HV.out.2.1
  have l3 := HV.out.2.2
  go_wp2_with fail
  refine (HSm.out _ _ _ _ _ HR.out HM.out).mono ?_
  rintro e w4 ⟨rfl, hb⟩
  replace HB := bel_tr HB hb
  clear hb HSm HR HM HU HV k0 k1 k2 k3 l0 l1 l2 l3
  go_wp2_with fail
  go_ret
  exact ⟨rfl, HB.out⟩
set_option maxRecDepth 100000 in
set_option maxHeartbeats 4000000 in
theorem withins_true {D E : Gt} {b : Bool} {z : Int} {x y u v s t o q : Value} {w : World} (h : withG D E = (b, z)) (hd : Gx w x y u v D) (hD : GL 400000 D) (he : Gx w s t o q E) (hE : GL 400000 E) :
    Calls Tryz.prog 13 #[gv x y u v, gv s t o q, .bool b, .int .i64 z] w fun e w' => e = .returned (.bool true) ∧ Below w.heap.size w w' := by
  have HO := Lib.hid (fun w h h2 => gwithin_any D E x y u v s t o q w h h2 hD hE)
  rw [h] at HO
  have HG := Lib.hid hd
  have HH := Lib.hid he
  obtain ⟨⟨⟨a1, n1, rfl, -⟩, a2, n2, rfl, -⟩, ⟨a3, n3, rfl, -⟩, a4, n4, rfl, -⟩ := hd
  obtain ⟨⟨⟨a5, n5, rfl, -⟩, a6, n6, rfl, -⟩, ⟨a7, n7, rfl, -⟩, a8, n8, rfl, -⟩ := he
  clear h hD hE
  have hb0 := bel_box w (gbox (.slice a1 D.1.1.length n1) (.slice a2 D.1.2.length n2) (.slice a3 D.2.1.length n3) (.slice a4 D.2.2.length n4))
  have HT := Lib.hid (four_new w (.slice a1 D.1.1.length n1) (.slice a2 D.1.2.length n2) (.slice a3 D.2.1.length n3) (.slice a4 D.2.2.length n4))
  have HB := Lib.hid hb0
  replace HG := Lib.hid (HG.out.keep hb0)
  replace HH := Lib.hid (HH.out.keep hb0)
  have hb1 := bel_box (w.alloc (gbox (.slice a1 D.1.1.length n1) (.slice a2 D.1.2.length n2) (.slice a3 D.2.1.length n3) (.slice a4 D.2.2.length n4))) (gbox (.slice a5 E.1.1.length n5) (.slice a6 E.1.2.length n6) (.slice a7 E.2.1.length n7) (.slice a8 E.2.2.length n8))
  have HS := Lib.hid (four_new (w.alloc (gbox (.slice a1 D.1.1.length n1) (.slice a2 D.1.2.length n2) (.slice a3 D.2.1.length n3) (.slice a4 D.2.2.length n4))) (.slice a5 E.1.1.length n5) (.slice a6 E.1.2.length n6) (.slice a7 E.2.1.length n7) (.slice a8 E.2.2.length n8))
  have hsz1 : (w.alloc (gbox (.slice a1 D.1.1.length n1) (.slice a2 D.1.2.length n2) (.slice a3 D.2.1.length n3) (.slice a4 D.2.2.length n4))).heap.size = w.heap.size + 1 := by simp
  rw [hsz1] at HS
  replace HT := Lib.hid (HT.out.keep hb1)
  replace HB := bel_tr HB hb1
  replace HG := Lib.hid (HG.out.keep hb1)
  replace HH := Lib.hid (HH.out.keep hb1)
  clear hb0 hb1 hsz1
  go_enter Tryz.func13, Tryz.ntmps13
  go_upto_region 1 with fail
  generalize (w.alloc (gbox (.slice a1 D.1.1.length n1) (.slice a2 D.1.2.length n2) (.slice a3 D.2.1.length n3) (.slice a4 D.2.2.length n4))).alloc (gbox (.slice a5 E.1.1.length n5) (.slice a6 E.1.2.length n6) (.slice a7 E.2.1.length n7) (.slice a8 E.2.2.length n8)) = w1 at *
  have k0 := HT.out.1.1
  have k1 := HT.out.1.2
  have k2 := HT.out.2.1
  have k3 := HT.out.2.2
  have l0 := HS.out.1.1
  have l1 := HS.out.1.2
  have l2 := HS.out.2.1
  have l3 := HS.out.2.2
  go_wp2_with fail
  refine (HO.out _ HG.out HH.out).mono ?_
  rintro e w2 ⟨rfl, hb⟩
  replace HB := bel_tr HB hb
  clear hb HO HG HH HT HS k0 k1 k2 k3 l0 l1 l2 l3
  rcases b with _ | _
  · go_wp2_with fail
    go_ret
    exact ⟨rfl, HB.out⟩
  · go_wp2_with fail
    go_ret
    exact ⟨rfl, HB.out⟩
end Go.Proofs.YtgopkffgljiblaaGreat.Dg
