/-
  Layer 16: digests in memory; Valid, Within, Merge, Of of the program.
-/
import Derived.Test.YtgopkffgljiblaaGreatMNPure
import Derived.Test.YtgopkffgljiblaaGreatMQCtx
import Derived.Test.YtgopkffgljiblaaGreatMQAdd
namespace Go.Proofs.YtgopkffgljiblaaGreat.Dg
set_option linter.unusedVariables false
open Go.RowKit V Go.Sort D Nd Qs Jn
open E (SV)
open F (Ct cv cbox Bc)
attribute [local irreducible] Sch.heldN Sch.stepV Sch.stepE

/-- Two slices that hold a context. -/
def Kx (w : World) (x y : Value) (c : Ct) : Prop := SV w x c.1 ∧ SV w y c.2
theorem Kx.keep {w w' : World} {x y : Value} {c : Ct} (h : Kx w x y c) (hb : Below w.heap.size w w') : Kx w' x y c := ⟨SV.keep h.1 hb, SV.keep h.2 hb⟩
theorem Kx.nil (w : World) : Kx w (.slice none 0 0) (.slice none 0 0) ([], []) := ⟨SV.nil w, SV.nil w⟩
theorem Kx.sh {w : World} {x y : Value} {c : Ct} (h : Kx w x y c) : ∃ a n b m, x = .slice a c.1.length n ∧ y = .slice b c.2.length m := by
  obtain ⟨⟨a, n, e, -⟩, b, m, f, -⟩ := h
  exact ⟨a, n, b, m, e, f⟩
theorem kx_ov {w : World} {base : Nat} {x y : Value} {c : Ct} (h : F.Ov w base x y c) : Kx w x y c := ⟨SV.of_od h.1, SV.of_od h.2⟩
/-- A context of few dots. -/
def KL (N : Nat) (c : Ct) : Prop := c.1.length ≤ N ∧ c.2.length ≤ N
/-- Four slices that hold a digest. -/
def Gx (w : World) (x y u v : Value) (d : Gt) : Prop := Kx w x y d.1 ∧ Kx w u v d.2
theorem Gx.keep {w w' : World} {x y u v : Value} {d : Gt} (h : Gx w x y u v d) (hb : Below w.heap.size w w') : Gx w' x y u v d := ⟨h.1.keep hb, h.2.keep hb⟩
theorem Gx.nil (w : World) : Gx w (.slice none 0 0) (.slice none 0 0) (.slice none 0 0) (.slice none 0 0) (([], []), [], []) := ⟨Kx.nil w, Kx.nil w⟩
def GL (N : Nat) (d : Gt) : Prop := KL N d.1 ∧ KL N d.2
abbrev gv (x y u v : Value) : Value := .agg #[x, y, u, v]
abbrev gbox (x y u v : Value) : Obj := .cells #[x, y, u, v] 27
/-- Block g holds these four values. -/
def Gb (w : World) (g : Nat) (x y u v : Value) : Prop := Bc w g x y ∧ w.cell? ⟨g, 2, none⟩ = some u ∧ w.cell? ⟨g, 3, none⟩ = some v
theorem Gb.keep {w w' : World} {g : Nat} {x y u v : Value} (h : Gb w g x y u v) (hb : Below w.heap.size w w') : Gb w' g x y u v :=
  ⟨h.1.keep hb, (hb.cell (p := ⟨_, _, none⟩) (lt_of_cell h.2.1)).trans h.2.1, (hb.cell (p := ⟨_, _, none⟩) (lt_of_cell h.2.2)).trans h.2.2⟩
theorem four_new (w : World) (x y u v : Value) : Gb (w.alloc (gbox x y u v)) w.heap.size x y u v := by
  refine ⟨⟨?_, ?_⟩, ?_, ?_⟩ <;> go_simp
theorem within_kx (A B : Ct) (x y u v : Value) (w : World) (h : Kx w x y A) (h2 : Kx w u v B) (hl : KL 900000 A) (hl2 : KL 900000 B) :
    Calls Tryz.prog 26 #[cv x y, cv u v] w fun e w' => e = .returned (.tuple #[.bool (F.withB A B).1, .int .i64 (F.withB A B).2]) ∧ Below w.heap.size w w' := by
  obtain ⟨⟨a, n, rfl, ha, ha2, -⟩, b, m, rfl, hb, hb2, -⟩ := h
  obtain ⟨⟨p, j, rfl, hp, hp2, -⟩, q, k, rfl, hq, hq2, -⟩ := h2
  exact F.within_any6 A.1 A.2 B.1 B.2 a b p q n m j k w ha hb hp hq hp2 hl.1 hl.2 hl2.1 hl2.2
theorem compact_kx (A : Ct) (x y : Value) (w : World) (h : Kx w x y A) (hl : KL 1000000 A) :
    Calls Tryz.prog 27 #[cv x y] w fun e w' => e = .returned (.bool (F.isCompR A)) ∧ Below w.heap.size w w' := by
  obtain ⟨⟨a, n, rfl, ha, ha2, -⟩, b, m, rfl, hb, hb2, -⟩ := h
  exact F.isCompact_any A.1 A.2 a b n m w ha hb hl.1 hl.2
theorem union_kx (A B : Ct) (x y u v : Value) (w : World) (h : Kx w x y A) (h2 : Kx w u v B) (hl : KL 400000 A) (hl2 : KL 400000 B) :
    Calls Tryz.prog 55 #[cv x y, cv u v] w fun e w' => ∃ s t, e = .returned (.tuple #[cv s t, .int .i64 (F.unionB A B).2]) ∧ F.Ov w' w.heap.size s t (F.unionB A B).1 ∧ Below w.heap.size w w' := by
  obtain ⟨⟨a, n, rfl, ha, ha2, -⟩, b, m, rfl, hb, hb2, -⟩ := h
  obtain ⟨⟨p, j, rfl, hp, hp2, -⟩, q, k, rfl, hq, hq2, -⟩ := h2
  exact F.union_any6 A.1 A.2 B.1 B.2 a b p q n m j k w ha hb hp hq ha2 hb2 hp2 hq2 hl.1 hl.2 hl2.1 hl2.2
theorem KL.mono {N M : Nat} {c : Ct} (h : KL N c) (hm : N ≤ M) : KL M c := ⟨Nat.le_trans h.1 hm, Nat.le_trans h.2 hm⟩
theorem GL.mono {N M : Nat} {d : Gt} (h : GL N d) (hm : N ≤ M) : GL M d := ⟨h.1.mono hm, h.2.mono hm⟩
theorem valid_all (d : Gt) : validG d = ((F.withB d.2 d.1).1 && F.isCompR d.1 && F.isCompR d.2) := by
  unfold validG F.withB
  rcases h1 : F.isCompR d.1 with _ | _
  · simp
  rcases h2 : F.isCompR d.2 with _ | _
  · simp
  rw [if_pos ⟨(F.valid_vc _).2 (comp_vcC h2), (F.valid_vc _).2 (comp_vcC h1)⟩]
  simp

set_option maxRecDepth 100000 in
set_option maxHeartbeats 4000000 in
theorem gvalid_any (d : Gt) (x y u v : Value) (w : World) (h : Gx w x y u v d) (hl : GL 400000 d) :
    Calls Tryz.prog 8 #[gv x y u v] w fun e w' => e = .returned (.bool (validG d)) ∧ Below w.heap.size w w' := by
  have HE := Lib.hid (valid_all d)
  have HW := Lib.hid (fun w (h : Gx w x y u v d) => within_kx d.2 d.1 u v x y w h.2 h.1 (hl.2.mono (by decide)) (hl.1.mono (by decide)))
  have HC1 := Lib.hid (fun w (h : Gx w x y u v d) => compact_kx d.1 x y w h.1 (hl.1.mono (by decide)))
  have HC2 := Lib.hid (fun w (h : Gx w x y u v d) => compact_kx d.2 u v w h.2 (hl.2.mono (by decide)))
  have HG0 := Lib.hid h
  obtain ⟨⟨⟨a1, n1, rfl, -⟩, a2, n2, rfl, -⟩, ⟨a3, n3, rfl, -⟩, a4, n4, rfl, -⟩ := h
  have HB := Lib.hid (bel_box w (gbox (.slice a1 d.1.1.length n1) (.slice a2 d.1.2.length n2) (.slice a3 d.2.1.length n3) (.slice a4 d.2.2.length n4)))
  have HT := Lib.hid (four_new w (.slice a1 d.1.1.length n1) (.slice a2 d.1.2.length n2) (.slice a3 d.2.1.length n3) (.slice a4 d.2.2.length n4))
  have HG := Lib.hid (HG0.out.keep HB.out)
  clear hl HG0
  generalize validG d = R at *
  generalize F.isCompR d.1 = c1 at *
  generalize F.isCompR d.2 = c2 at *
  obtain ⟨wb, hwb⟩ : ∃ wb, wb = F.withB d.2 d.1 := ⟨_, rfl⟩
  rw [← hwb] at HE HW
  clear hwb
  obtain ⟨t, z⟩ := wb
  go_enter Tryz.func8, Tryz.ntmps8
  go_wp2_with fail
  generalize w.alloc (gbox (.slice a1 d.1.1.length n1) (.slice a2 d.1.2.length n2) (.slice a3 d.2.1.length n3) (.slice a4 d.2.2.length n4)) = w1 at *
  have k0 := HT.out.1.1
  have k1 := HT.out.1.2
  have k2 := HT.out.2.1
  have k3 := HT.out.2.2
  go_wp2_with fail
  refine (HW.out _ HG.out).mono ?_
  rintro e w2 ⟨rfl, hb⟩
  replace HG := Lib.hid (HG.out.keep hb)
  replace HT := Lib.hid (HT.out.keep hb)
  replace HB := bel_tr HB hb
  clear hb HW k0 k1 k2 k3
  have k0 := HT.out.1.1
  have k1 := HT.out.1.2
  have k2 := HT.out.2.1
  have k3 := HT.out.2.2
  rcases t with _ | _
  · have hE := HE.out
    simp only [Bool.false_and] at hE
    subst hE
    clear HE
    go_wp2_with fail
    go_ret
    exact ⟨rfl, HB.out⟩
  go_wp2_with fail
  refine (HC1.out _ HG.out).mono ?_
  rintro e w3 ⟨rfl, hb⟩
  replace HG := Lib.hid (HG.out.keep hb)
  replace HT := Lib.hid (HT.out.keep hb)
  replace HB := bel_tr HB hb
  clear hb HC1 k0 k1 k2 k3
  have k0 := HT.out.1.1
  have k1 := HT.out.1.2
  have k2 := HT.out.2.1
  have k3 := HT.out.2.2
  rcases c1 with _ | _
  · have hE := HE.out
    simp only [Bool.and_false, Bool.false_and] at hE
    subst hE
    clear HE
    go_wp2_with fail
    go_ret
    exact ⟨rfl, HB.out⟩
  go_wp2_with fail
  refine (HC2.out _ HG.out).mono ?_
  rintro e w4 ⟨rfl, hb⟩
  replace HG := Lib.hid (HG.out.keep hb)
  replace HT := Lib.hid (HT.out.keep hb)
  replace HB := bel_tr HB hb
  clear hb HC2 k0 k1 k2 k3
  have hE := HE.out
  simp only [Bool.true_and] at hE
  subst hE
  clear HE
  go_wp2_with fail
  go_ret
  exact ⟨rfl, HB.out⟩
def withG (a b : Gt) : Bool × Int := if (validG a && validG b) = true then (withinG a b, 0) else (false, 2)
def mergB (a b : Gt) : Gt × Int := if (validG a && validG b) = true then (mergeG a b, 0) else ((([], []), [], []), 2)
set_option maxRecDepth 100000 in
set_option maxHeartbeats 4000000 in
theorem gwithin_any (d e : Gt) (x y u v s t o q : Value) (w : World) (h : Gx w x y u v d) (h2 : Gx w s t o q e) (hl : GL 400000 d) (hm : GL 400000 e) :
    Calls Tryz.prog 33 #[gv x y u v, gv s t o q] w fun e' w' => e' = .returned (.tuple #[.bool (withG d e).1, .int .i64 (withG d e).2]) ∧ Below w.heap.size w w' := by
  have HV1 := Lib.hid (fun w (h : Gx w x y u v d) => gvalid_any d x y u v w h hl)
  have HV2 := Lib.hid (fun w (h : Gx w s t o q e) => gvalid_any e s t o q w h hm)
  have HE1 : Hid (validG d = true → validG e = true → withG d e = (withinG d e, 0)) := fun h1 h2 => by unfold withG; rw [h1, h2]; rfl
  have HE0 : Hid ((validG d && validG e) = false → withG d e = (false, 2)) := fun h1 => by unfold withG; rw [h1]; rfl
  have HW1 := Lib.hid (fun w (h : Gx w x y u v d) (h2 : Gx w s t o q e) => within_kx d.1 e.1 x y s t w h.1 h2.1 (hl.1.mono (by decide)) (hm.1.mono (by decide)))
  have HW2 := Lib.hid (fun w (h : Gx w x y u v d) (h2 : Gx w s t o q e) => within_kx d.2 e.2 u v o q w h.2 h2.2 (hl.2.mono (by decide)) (hm.2.mono (by decide)))
  have HX : Hid (validG d = true → validG e = true → F.withB d.1 e.1 = (F.withinC d.1 e.1, 0) ∧ F.withB d.2 e.2 = (F.withinC d.2 e.2, 0)) := fun h1 h2 => by
    obtain ⟨a1, a2, -⟩ := valid_parts h1
    obtain ⟨b1, b2, -⟩ := valid_parts h2
    unfold F.withB
    rw [if_pos ⟨(F.valid_vc _).2 (comp_vcC a1), (F.valid_vc _).2 (comp_vcC b1)⟩, if_pos ⟨(F.valid_vc _).2 (comp_vcC a2), (F.valid_vc _).2 (comp_vcC b2)⟩]
    exact ⟨rfl, rfl⟩
  have HWi : Hid (withinG d e = (F.withinC d.1 e.1 && F.withinC d.2 e.2)) := rfl
  have HG0 := Lib.hid h
  have HH0 := Lib.hid h2
  obtain ⟨⟨⟨a1, n1, rfl, -⟩, a2, n2, rfl, -⟩, ⟨a3, n3, rfl, -⟩, a4, n4, rfl, -⟩ := h
  obtain ⟨⟨⟨a5, n5, rfl, -⟩, a6, n6, rfl, -⟩, ⟨a7, n7, rfl, -⟩, a8, n8, rfl, -⟩ := h2
  have hb0 := bel_box w (gbox (.slice a1 d.1.1.length n1) (.slice a2 d.1.2.length n2) (.slice a3 d.2.1.length n3) (.slice a4 d.2.2.length n4))
  have hsz : (w.alloc (gbox (.slice a1 d.1.1.length n1) (.slice a2 d.1.2.length n2) (.slice a3 d.2.1.length n3) (.slice a4 d.2.2.length n4))).heap.size = w.heap.size + 1 := by simp
  have HT0 := Lib.hid (four_new w (.slice a1 d.1.1.length n1) (.slice a2 d.1.2.length n2) (.slice a3 d.2.1.length n3) (.slice a4 d.2.2.length n4))
  have hb1 := bel_box (w.alloc (gbox (.slice a1 d.1.1.length n1) (.slice a2 d.1.2.length n2) (.slice a3 d.2.1.length n3) (.slice a4 d.2.2.length n4))) (gbox (.slice a5 e.1.1.length n5) (.slice a6 e.1.2.length n6) (.slice a7 e.2.1.length n7) (.slice a8 e.2.2.length n8))
  have HS := Lib.hid (four_new (w.alloc (gbox (.slice a1 d.1.1.length n1) (.slice a2 d.1.2.length n2) (.slice a3 d.2.1.length n3) (.slice a4 d.2.2.length n4))) (.slice a5 e.1.1.length n5) (.slice a6 e.1.2.length n6) (.slice a7 e.2.1.length n7) (.slice a8 e.2.2.length n8))
  rw [hsz] at HS
  have HT := Lib.hid (HT0.out.keep hb1)
  have HB := bel_tr (Lib.hid hb0) hb1
  have HG := Lib.hid (HG0.out.keep HB.out)
  have HH := Lib.hid (HH0.out.keep HB.out)
  clear hl hm HG0 HH0 hb0 hb1 HT0 hsz
  generalize withG d e = R at *
  generalize withinG d e = r at *
  generalize F.withinC d.1 e.1 = t1 at *
  generalize F.withinC d.2 e.2 = t2 at *
  generalize F.withB d.1 e.1 = b1 at *
  generalize F.withB d.2 e.2 = b2 at *
  generalize validG d = v1 at *
  generalize validG e = v2 at *
  go_enter Tryz.func33, Tryz.ntmps33
  go_wp2_with fail
  generalize (w.alloc (gbox (.slice a1 d.1.1.length n1) (.slice a2 d.1.2.length n2) (.slice a3 d.2.1.length n3) (.slice a4 d.2.2.length n4))).alloc (gbox (.slice a5 e.1.1.length n5) (.slice a6 e.1.2.length n6) (.slice a7 e.2.1.length n7) (.slice a8 e.2.2.length n8)) = w1 at *
  have k0 := HT.out.1.1
  have k1 := HT.out.1.2
  have k2 := HT.out.2.1
  have k3 := HT.out.2.2
  have l0 := HS.out.1.1
  have l1 := HS.out.1.2
  have l2 := HS.out.2.1
  have l3 := HS.out.2.2
  go_wp2_with fail
  refine (HV1.out _ HG.out).mono ?_
  rintro e w2 ⟨rfl, hb⟩
  replace HG := Lib.hid (HG.out.keep hb)
  replace HH := Lib.hid (HH.out.keep hb)
  replace HT := Lib.hid (HT.out.keep hb)
  replace HS := Lib.hid (HS.out.keep hb)
  replace HB := bel_tr HB hb
  clear hb HV1 k0 k1 k2 k3 l0 l1 l2 l3
  rcases v1 with _ | _
  · have hR := HE0.out (by first | rfl | simp)
    subst hR
    clear HE0 HE1 HX HWi
    go_wp2_with fail
    go_ret2
    exact ⟨rfl, HB.out⟩
  have k0 := HT.out.1.1
  have k1 := HT.out.1.2
  have k2 := HT.out.2.1
  have k3 := HT.out.2.2
  have l0 := HS.out.1.1
  have l1 := HS.out.1.2
  have l2 := HS.out.2.1
  have l3 := HS.out.2.2
  go_wp2_with fail
  refine (HV2.out _ HH.out).mono ?_
  rintro e w3 ⟨rfl, hb⟩
  replace HG := Lib.hid (HG.out.keep hb)
  replace HH := Lib.hid (HH.out.keep hb)
  replace HT := Lib.hid (HT.out.keep hb)
  replace HS := Lib.hid (HS.out.keep hb)
  replace HB := bel_tr HB hb
  clear hb HV2 k0 k1 k2 k3 l0 l1 l2 l3
  rcases v2 with _ | _
  · have hR := HE0.out (by first | rfl | simp)
    subst hR
    clear HE0 HE1 HX HWi
    go_wp2_with fail
    go_ret2
    exact ⟨rfl, HB.out⟩
  have hR := HE1.out (by first | rfl | trivial) (by first | rfl | trivial)
  have hW := HWi.out
  obtain ⟨hX1, hX2⟩ := HX.out (by first | rfl | trivial) (by first | rfl | trivial)
  subst hR; subst hX1; subst hX2; subst hW
  clear HE0 HE1 HX HWi
  have k0 := HT.out.1.1
  have k1 := HT.out.1.2
  have k2 := HT.out.2.1
  have k3 := HT.out.2.2
  have l0 := HS.out.1.1
  have l1 := HS.out.1.2
  have l2 := HS.out.2.1
  have l3 := HS.out.2.2
  go_wp2_with fail
  refine (HW1.out _ HG.out HH.out).mono ?_
  rintro e w4 ⟨rfl, hb⟩
  replace HG := Lib.hid (HG.out.keep hb)
  replace HH := Lib.hid (HH.out.keep hb)
  replace HT := Lib.hid (HT.out.keep hb)
  replace HS := Lib.hid (HS.out.keep hb)
  replace HB := bel_tr HB hb
  clear hb HW1 k0 k1 k2 k3 l0 l1 l2 l3
  have k0 := HT.out.1.1
  have k1 := HT.out.1.2
  have k2 := HT.out.2.1
  have k3 := HT.out.2.2
  have l0 := HS.out.1.1
  have l1 := HS.out.1.2
  have l2 := HS.out.2.1
  have l3 := HS.out.2.2
  go_wp2_with fail
  refine (HW2.out _ HG.out HH.out).mono ?_
  rintro e w5 ⟨rfl, hb⟩
  replace HG := Lib.hid (HG.out.keep hb)
  replace HH := Lib.hid (HH.out.keep hb)
  replace HT := Lib.hid (HT.out.keep hb)
  replace HS := Lib.hid (HS.out.keep hb)
  replace HB := bel_tr HB hb
  clear hb HW2 k0 k1 k2 k3 l0 l1 l2 l3
  rcases t1 with _ | _
  · go_wp2_with fail
    go_ret2
    exact ⟨rfl, HB.out⟩
  · go_wp2_with fail
    go_ret2
    exact ⟨by simp, HB.out⟩

/-! ### The digest of a state -/
theorem ctxP_store {l : List Nt} (h : validS l = true) (b : Bool) : ctxP l (chs b) = (ctxS l b, 0) := by
  unfold ctxP
  rw [if_pos h]
  exact F.made_eq (dots_valid h b)
theorem ctxP_no {l : List Nt} (h : validS l = false) (b : Bool) : ctxP l (chs b) = (([], []), 2) := by
  unfold ctxP
  rw [if_neg (by rw [h]; simp)]
def ofB (l : List Nt) : Gt × Int := if validS l = true then (ofG l, 0) else ((([], []), [], []), 2)
theorem ofB_all (l : List Nt) : ctxP l (chs false) = ((ofB l).1.1, (ofB l).2) ∧ ctxP l (chs true) = ((ofB l).1.2, (ofB l).2) := by
  unfold ofB
  rcases h : validS l with _ | _
  · exact ⟨ctxP_no h _, ctxP_no h _⟩
  · exact ⟨ctxP_store h _, ctxP_store h _⟩
/-- A digest in rows of the call's own. -/
def Og (w : World) (base : Nat) (x y u v : Value) (d : Gt) : Prop := F.Ov w base x y d.1 ∧ F.Ov w base u v d.2
theorem Og.gx {w : World} {base : Nat} {x y u v : Value} {d : Gt} (h : Og w base x y u v d) : Gx w x y u v d := ⟨kx_ov h.1, kx_ov h.2⟩
theorem Og.nil (w : World) (base : Nat) : Og w base (.slice none 0 0) (.slice none 0 0) (.slice none 0 0) (.slice none 0 0) (([], []), [], []) := ⟨F.Ov.nil _ _, F.Ov.nil _ _⟩
/-- A box of a digest that may be written. -/
def Wg (w : World) (g : Nat) : Prop := ∀ i, i < 4 → (∃ v, w.cell? ⟨g, i, none⟩ = some v) ∧ w.frozen? ⟨g, i, none⟩ = false
theorem Wg.keep {w w' : World} {g : Nat} (h : Wg w g) (hb : Below w.heap.size w w') : Wg w' g := fun i hi => by
  obtain ⟨⟨v, hv⟩, hf⟩ := h i hi
  have hl := lt_of_cell hv
  exact ⟨⟨v, (hb.cell (p := ⟨g, i, none⟩) hl).trans hv⟩, (hb.frozen (p := ⟨g, i, none⟩) hl).trans hf⟩
theorem Wg.lt {w : World} {g : Nat} (h : Wg w g) : g < w.heap.size := by
  obtain ⟨⟨v, hv⟩, -⟩ := h 0 (by omega)
  exact lt_of_cell hv
theorem wg_new (w : World) : Wg (w.alloc (gbox (.slice none 0 0) (.slice none 0 0) (.slice none 0 0) (.slice none 0 0))) w.heap.size := by
  intro i hi
  rcases i with _ | _ | _ | _ | i
  · exact ⟨⟨_, by go_simp; rfl⟩, by go_simp⟩
  · exact ⟨⟨_, by go_simp; rfl⟩, by go_simp⟩
  · exact ⟨⟨_, by go_simp; rfl⟩, by go_simp⟩
  · exact ⟨⟨_, by go_simp; rfl⟩, by go_simp⟩
  · omega
theorem put_four {w : World} {g : Nat} {x y u v : Value} (k : Wg w g) : Gb ((((w.setCell ⟨g, 0, none⟩ x).setCell ⟨g, 1, none⟩ y).setCell ⟨g, 2, none⟩ u).setCell ⟨g, 3, none⟩ v) g x y u v := by
  obtain ⟨⟨u0, h0⟩, -⟩ := k 0 (by omega)
  obtain ⟨⟨u1, h1⟩, -⟩ := k 1 (by omega)
  obtain ⟨⟨u2, h2⟩, -⟩ := k 2 (by omega)
  obtain ⟨⟨u3, h3⟩, -⟩ := k 3 (by omega)
  refine ⟨⟨?_, ?_⟩, ?_, ?_⟩ <;> go_simp
theorem Ov.put4 {w : World} {base : Nat} {x y s t o q : Value} {c : Ct} (h : F.Ov w base x y c) {g : Nat} (hg : g < base) : F.Ov ((((w.setCell ⟨g, 0, none⟩ s).setCell ⟨g, 1, none⟩ t).setCell ⟨g, 2, none⟩ o).setCell ⟨g, 3, none⟩ q) base x y c :=
  ⟨F.OD.set (F.OD.set (F.OD.set (F.OD.set h.1 g 0 s hg) g 1 t hg) g 2 o hg) g 3 q hg, F.OD.set (F.OD.set (F.OD.set (F.OD.set h.2 g 0 s hg) g 1 t hg) g 2 o hg) g 3 q hg⟩
theorem below_put4 {B : Nat} {a w : World} {g : Nat} {x y u v : Value} (h : Below B a w) (hg : B ≤ g) : Below B a ((((w.setCell ⟨g, 0, none⟩ x).setCell ⟨g, 1, none⟩ y).setCell ⟨g, 2, none⟩ u).setCell ⟨g, 3, none⟩ v) :=
  (((h.setCell (p := ⟨g, 0, none⟩) hg _).setCell (p := ⟨g, 1, none⟩) hg _).setCell (p := ⟨g, 2, none⟩) hg _).setCell (p := ⟨g, 3, none⟩) hg _

set_option maxRecDepth 100000 in
set_option maxHeartbeats 4000000 in
theorem gof_any (l : List Nt) (a : Option Addr) (c : Nat) (w : World) (hx : RowN w a l) (hlx : l.length ≤ 300000) :
    Calls Tryz.prog 42 #[.slice a l.length c] w fun e w' => ∃ x y u v, e = .returned (.tuple #[gv x y u v, .int .i64 (ofB l).2]) ∧ Og w' w.heap.size x y u v (ofB l).1 ∧ Below w.heap.size w w' := by
  have HE := Lib.hid (ofB_all l)
  have HC1 := Lib.hid (fun w h => context_prog l a c w h hlx)
  have HC2 := Lib.hid (fun w h => dead_prog l a c w h hlx)
  rw [HE.out.1] at HC1
  rw [HE.out.2] at HC2
  have HW := Lib.hid (wg_new w)
  have HB := Lib.hid (bel_box w (gbox (.slice none 0 0) (.slice none 0 0) (.slice none 0 0) (.slice none 0 0)))
  have HX := Lib.hid (hx.keep HB.out)
  have HBs : Hid (w.heap.size + 1 ≤ (w.alloc (gbox (.slice none 0 0) (.slice none 0 0) (.slice none 0 0) (.slice none 0 0))).heap.size) := by show _ ≤ _; simp
  clear hx hlx HE
  generalize ofB l = R at *
  obtain ⟨⟨R1, R2⟩, z⟩ := R
  simp only at HC1 HC2
  go_enter Tryz.func42, Tryz.ntmps42
  go_wp2_with fail
  generalize w.alloc (gbox (.slice none 0 0) (.slice none 0 0) (.slice none 0 0) (.slice none 0 0)) = w1 at *
  refine (HC1.out _ HX.out).mono ?_
  rintro e w2 ⟨x, y, rfl, ho, hb⟩
  have HO1 := Lib.hid (ho.mono HBs.out)
  obtain ⟨a1, n1, b1, m1, rfl, rfl⟩ := HO1.out.shape
  replace HX := Lib.hid (HX.out.keep hb)
  replace HW := Lib.hid (HW.out.keep hb)
  replace HB := bel_tr HB hb
  replace HBs := Lib.hid (Nat.le_trans HBs.out hb.size)
  clear hb ho
  have HK := Lib.hid (F.two_new w2 (.slice a1 R1.1.length n1) (.slice b1 R1.2.length m1))
  have hb := bel_box w2 (cbox (.slice a1 R1.1.length n1) (.slice b1 R1.2.length m1))
  replace HO1 := Lib.hid (HO1.out.below hb)
  replace HX := Lib.hid (HX.out.keep hb)
  replace HW := Lib.hid (HW.out.keep hb)
  replace HB := bel_tr HB hb
  replace HBs := Lib.hid (Nat.le_trans HBs.out hb.size)
  clear hb HC1
  go_wp2_with fail
  generalize w2.alloc (cbox (.slice a1 R1.1.length n1) (.slice b1 R1.2.length m1)) = wa at *
  generalize w2.heap.size = ga at *
  refine (HC2.out _ HX.out).mono ?_
  rintro e w3 ⟨x, y, rfl, ho, hb⟩
  have HO2 := Lib.hid (ho.mono HBs.out)
  obtain ⟨a2, n2, b2, m2, rfl, rfl⟩ := HO2.out.shape
  replace HX := Lib.hid (HX.out.keep hb)
  replace HW := Lib.hid (HW.out.keep hb)
  replace HK := Lib.hid (HK.out.keep hb)
  replace HO1 := Lib.hid (HO1.out.below hb)
  replace HB := bel_tr HB hb
  replace HBs := Lib.hid (Nat.le_trans HBs.out hb.size)
  clear hb ho
  have HL := Lib.hid (F.two_new w3 (.slice a2 R2.1.length n2) (.slice b2 R2.2.length m2))
  have hb := bel_box w3 (cbox (.slice a2 R2.1.length n2) (.slice b2 R2.2.length m2))
  replace HX := Lib.hid (HX.out.keep hb)
  replace HW := Lib.hid (HW.out.keep hb)
  replace HK := Lib.hid (HK.out.keep hb)
  replace HO1 := Lib.hid (HO1.out.below hb)
  replace HO2 := Lib.hid (HO2.out.below hb)
  replace HB := bel_tr HB hb
  clear hb HC2
  go_upto_region 3 with fail
  generalize w3.alloc (cbox (.slice a2 R2.1.length n2) (.slice b2 R2.2.length m2)) = wb at *
  generalize w3.heap.size = gb at *
  have k0 := HK.out.1
  have k1 := HK.out.2
  have l0 := HL.out.1
  have l1 := HL.out.2
  obtain ⟨⟨u0, r0⟩, f0⟩ := HW.out 0 (by omega)
  obtain ⟨⟨u1, r1⟩, f1⟩ := HW.out 1 (by omega)
  obtain ⟨⟨u2, r2⟩, f2⟩ := HW.out 2 (by omega)
  obtain ⟨⟨u3, r3⟩, f3⟩ := HW.out 3 (by omega)
  have HP := Lib.hid (put_four (x := .slice a1 R1.1.length n1) (y := .slice b1 R1.2.length m1) (u := .slice a2 R2.1.length n2) (v := .slice b2 R2.2.length m2) HW.out)
  have HO3 : Hid (Og ((((wb.setCell ⟨w.heap.size, 0, none⟩ (.slice a1 R1.1.length n1)).setCell ⟨w.heap.size, 1, none⟩ (.slice b1 R1.2.length m1)).setCell ⟨w.heap.size, 2, none⟩ (.slice a2 R2.1.length n2)).setCell ⟨w.heap.size, 3, none⟩ (.slice b2 R2.2.length m2)) w.heap.size (.slice a1 R1.1.length n1) (.slice b1 R1.2.length m1) (.slice a2 R2.1.length n2) (.slice b2 R2.2.length m2) (R1, R2)) := ⟨(Ov.put4 HO1.out (Nat.lt_succ_self _)).mono (Nat.le_succ _), (Ov.put4 HO2.out (Nat.lt_succ_self _)).mono (Nat.le_succ _)⟩
  have HB4 := Lib.hid (below_put4 (g := w.heap.size) (x := .slice a1 R1.1.length n1) (y := .slice b1 R1.2.length m1) (u := .slice a2 R2.1.length n2) (v := .slice b2 R2.2.length m2) HB.out (Nat.le_refl _))
  go_wp2_with fail
  generalize (((wb.setCell ⟨w.heap.size, 0, none⟩ (.slice a1 R1.1.length n1)).setCell ⟨w.heap.size, 1, none⟩ (.slice b1 R1.2.length m1)).setCell ⟨w.heap.size, 2, none⟩ (.slice a2 R2.1.length n2)).setCell ⟨w.heap.size, 3, none⟩ (.slice b2 R2.2.length m2) = W at *
  have q0 := HP.out.1.1
  have q1 := HP.out.1.2
  have q2 := HP.out.2.1
  have q3 := HP.out.2.2
  (try simp only [Exit.inBlock, Exit.then])
  refine bodyPost_ret (v := .tuple #[gv (.slice a1 R1.1.length n1) (.slice b1 R1.2.length m1) (.slice a2 R2.1.length n2) (.slice b2 R2.2.length m2), .int .i64 z]) (by rw [results_cell_tmp (fn := Tryz.f42) (p := 2) (u := 3) (ty := 27) rfl]; go_simp) rfl ?_
  exact ⟨_, _, _, _, rfl, HO3.out, HB4.out⟩
set_option maxRecDepth 100000 in
set_option maxHeartbeats 4000000 in
theorem gmerge_any (d e : Gt) (x y u v s t o q : Value) (w : World) (h : Gx w x y u v d) (h2 : Gx w s t o q e) (hl : GL 400000 d) (hm : GL 400000 e) :
    Calls Tryz.prog 32 #[gv x y u v, gv s t o q] w fun e' w' => ∃ x' y' u' v', e' = .returned (.tuple #[gv x' y' u' v', .int .i64 (mergB d e).2]) ∧ Og w' w.heap.size x' y' u' v' (mergB d e).1 ∧ Below w.heap.size w w' := by
  have HV1 := Lib.hid (fun w (h : Gx w x y u v d) => gvalid_any d x y u v w h hl)
  have HV2 := Lib.hid (fun w (h : Gx w s t o q e) => gvalid_any e s t o q w h hm)
  have HE1 : Hid (validG d = true → validG e = true → mergB d e = (mergeG d e, 0)) := fun h1 h2 => by unfold mergB; rw [h1, h2]; rfl
  have HE0 : Hid ((validG d && validG e) = false → mergB d e = ((([], []), [], []), 2)) := fun h1 => by unfold mergB; rw [h1]; rfl
  have HW1 := Lib.hid (fun w (h : Gx w x y u v d) (h2 : Gx w s t o q e) => union_kx d.1 e.1 x y s t w h.1 h2.1 (hl.1.mono (by decide)) (hm.1.mono (by decide)))
  have HW2 := Lib.hid (fun w (h : Gx w x y u v d) (h2 : Gx w s t o q e) => union_kx d.2 e.2 u v o q w h.2 h2.2 (hl.2.mono (by decide)) (hm.2.mono (by decide)))
  have HX : Hid (validG d = true → validG e = true → F.unionB d.1 e.1 = ((mergeG d e).1, 0) ∧ F.unionB d.2 e.2 = ((mergeG d e).2, 0)) := fun h1 h2 => by
    obtain ⟨a1, a2, -⟩ := valid_parts h1
    obtain ⟨b1, b2, -⟩ := valid_parts h2
    unfold F.unionB
    rw [if_pos ⟨(F.valid_vc _).2 (comp_vcC a1), (F.valid_vc _).2 (comp_vcC b1)⟩, if_pos ⟨(F.valid_vc _).2 (comp_vcC a2), (F.valid_vc _).2 (comp_vcC b2)⟩]
    exact ⟨rfl, rfl⟩
  have HG0 := Lib.hid h
  have HH0 := Lib.hid h2
  obtain ⟨⟨⟨a1, n1, rfl, -⟩, a2, n2, rfl, -⟩, ⟨a3, n3, rfl, -⟩, a4, n4, rfl, -⟩ := h
  obtain ⟨⟨⟨a5, n5, rfl, -⟩, a6, n6, rfl, -⟩, ⟨a7, n7, rfl, -⟩, a8, n8, rfl, -⟩ := h2
  have hb0 := bel_box w (gbox (.slice a1 d.1.1.length n1) (.slice a2 d.1.2.length n2) (.slice a3 d.2.1.length n3) (.slice a4 d.2.2.length n4))
  have hsz : (w.alloc (gbox (.slice a1 d.1.1.length n1) (.slice a2 d.1.2.length n2) (.slice a3 d.2.1.length n3) (.slice a4 d.2.2.length n4))).heap.size = w.heap.size + 1 := by simp
  have HT0 := Lib.hid (four_new w (.slice a1 d.1.1.length n1) (.slice a2 d.1.2.length n2) (.slice a3 d.2.1.length n3) (.slice a4 d.2.2.length n4))
  have hb1 := bel_box (w.alloc (gbox (.slice a1 d.1.1.length n1) (.slice a2 d.1.2.length n2) (.slice a3 d.2.1.length n3) (.slice a4 d.2.2.length n4))) (gbox (.slice a5 e.1.1.length n5) (.slice a6 e.1.2.length n6) (.slice a7 e.2.1.length n7) (.slice a8 e.2.2.length n8))
  have HS := Lib.hid (four_new (w.alloc (gbox (.slice a1 d.1.1.length n1) (.slice a2 d.1.2.length n2) (.slice a3 d.2.1.length n3) (.slice a4 d.2.2.length n4))) (.slice a5 e.1.1.length n5) (.slice a6 e.1.2.length n6) (.slice a7 e.2.1.length n7) (.slice a8 e.2.2.length n8))
  rw [hsz] at HS
  have HT := Lib.hid (HT0.out.keep hb1)
  have HB := bel_tr (Lib.hid hb0) hb1
  have HG := Lib.hid (HG0.out.keep HB.out)
  have HH := Lib.hid (HH0.out.keep HB.out)
  clear hl hm HG0 HH0 hb0 hb1 HT0 hsz
  have hsz2 : ((w.alloc (gbox (.slice a1 d.1.1.length n1) (.slice a2 d.1.2.length n2) (.slice a3 d.2.1.length n3) (.slice a4 d.2.2.length n4))).alloc (gbox (.slice a5 e.1.1.length n5) (.slice a6 e.1.2.length n6) (.slice a7 e.2.1.length n7) (.slice a8 e.2.2.length n8))).heap.size = w.heap.size + 1 + 1 := by simp
  have HW := Lib.hid (wg_new ((w.alloc (gbox (.slice a1 d.1.1.length n1) (.slice a2 d.1.2.length n2) (.slice a3 d.2.1.length n3) (.slice a4 d.2.2.length n4))).alloc (gbox (.slice a5 e.1.1.length n5) (.slice a6 e.1.2.length n6) (.slice a7 e.2.1.length n7) (.slice a8 e.2.2.length n8))))
  rw [hsz2] at HW
  have hb := bel_box ((w.alloc (gbox (.slice a1 d.1.1.length n1) (.slice a2 d.1.2.length n2) (.slice a3 d.2.1.length n3) (.slice a4 d.2.2.length n4))).alloc (gbox (.slice a5 e.1.1.length n5) (.slice a6 e.1.2.length n6) (.slice a7 e.2.1.length n7) (.slice a8 e.2.2.length n8))) (gbox (.slice none 0 0) (.slice none 0 0) (.slice none 0 0) (.slice none 0 0))
  replace HG := Lib.hid (HG.out.keep hb)
  replace HH := Lib.hid (HH.out.keep hb)
  replace HT := Lib.hid (HT.out.keep hb)
  replace HS := Lib.hid (HS.out.keep hb)
  replace HB := bel_tr HB hb
  clear hb hsz2
  generalize mergB d e = R at *
  obtain ⟨M, hM⟩ : ∃ M, M = mergeG d e := ⟨_, rfl⟩
  rw [← hM] at HE1 HX
  clear hM
  obtain ⟨M1, M2⟩ := M
  generalize F.unionB d.1 e.1 = b1 at *
  generalize F.unionB d.2 e.2 = b2 at *
  generalize validG d = v1 at *
  generalize validG e = v2 at *
  go_enter Tryz.func32, Tryz.ntmps32
  go_wp2_with fail
  generalize ((w.alloc (gbox (.slice a1 d.1.1.length n1) (.slice a2 d.1.2.length n2) (.slice a3 d.2.1.length n3) (.slice a4 d.2.2.length n4))).alloc (gbox (.slice a5 e.1.1.length n5) (.slice a6 e.1.2.length n6) (.slice a7 e.2.1.length n7) (.slice a8 e.2.2.length n8))).alloc (gbox (.slice none 0 0) (.slice none 0 0) (.slice none 0 0) (.slice none 0 0)) = w1 at *
  have k0 := HT.out.1.1
  have k1 := HT.out.1.2
  have k2 := HT.out.2.1
  have k3 := HT.out.2.2
  have l0 := HS.out.1.1
  have l1 := HS.out.1.2
  have l2 := HS.out.2.1
  have l3 := HS.out.2.2
  go_wp2_with fail
  refine (HV1.out _ HG.out).mono ?_
  rintro e w2 ⟨rfl, hb⟩
  replace HG := Lib.hid (HG.out.keep hb)
  replace HH := Lib.hid (HH.out.keep hb)
  replace HT := Lib.hid (HT.out.keep hb)
  replace HS := Lib.hid (HS.out.keep hb)
  replace HW := Lib.hid (HW.out.keep hb)
  replace HB := bel_tr HB hb
  clear hb HV1 k0 k1 k2 k3 l0 l1 l2 l3
  rcases v1 with _ | _
  · have hR := HE0.out (by first | rfl | simp)
    subst hR
    clear HE0 HE1 HX HW1 HW2
    obtain ⟨⟨u0, r0⟩, f0⟩ := HW.out 0 (by omega)
    obtain ⟨⟨u1, r1⟩, f1⟩ := HW.out 1 (by omega)
    obtain ⟨⟨u2, r2⟩, f2⟩ := HW.out 2 (by omega)
    obtain ⟨⟨u3, r3⟩, f3⟩ := HW.out 3 (by omega)
    have HP := Lib.hid (put_four (x := .slice none 0 0) (y := .slice none 0 0) (u := .slice none 0 0) (v := .slice none 0 0) HW.out)
    have HB4 := Lib.hid (below_put4 (g := w.heap.size + 1 + 1) (x := .slice none 0 0) (y := .slice none 0 0) (u := .slice none 0 0) (v := .slice none 0 0) HB.out (by omega))
    go_wp2_with fail
    generalize (((w2.setCell ⟨(w.heap.size + 1 + 1), 0, none⟩ (.slice none 0 0)).setCell ⟨(w.heap.size + 1 + 1), 1, none⟩ (.slice none 0 0)).setCell ⟨(w.heap.size + 1 + 1), 2, none⟩ (.slice none 0 0)).setCell ⟨(w.heap.size + 1 + 1), 3, none⟩ (.slice none 0 0) = W at *
    have q0 := HP.out.1.1
    have q1 := HP.out.1.2
    have q2 := HP.out.2.1
    have q3 := HP.out.2.2
    (try simp only [Exit.inBlock, Exit.then])
    refine bodyPost_ret (v := .tuple #[gv (.slice none 0 0) (.slice none 0 0) (.slice none 0 0) (.slice none 0 0), .int .i64 2]) (by rw [results_cell_tmp (fn := Tryz.f32) (p := 4) (u := 5) (ty := 27) rfl]; go_simp) rfl ?_
    exact ⟨_, _, _, _, rfl, Og.nil _ _, HB4.out⟩
  have k0 := HT.out.1.1
  have k1 := HT.out.1.2
  have k2 := HT.out.2.1
  have k3 := HT.out.2.2
  have l0 := HS.out.1.1
  have l1 := HS.out.1.2
  have l2 := HS.out.2.1
  have l3 := HS.out.2.2
  go_wp2_with fail
  refine (HV2.out _ HH.out).mono ?_
  rintro e w3 ⟨rfl, hb⟩
  replace HG := Lib.hid (HG.out.keep hb)
  replace HH := Lib.hid (HH.out.keep hb)
  replace HT := Lib.hid (HT.out.keep hb)
  replace HS := Lib.hid (HS.out.keep hb)
  replace HW := Lib.hid (HW.out.keep hb)
  replace HB := bel_tr HB hb
  clear hb HV2 k0 k1 k2 k3 l0 l1 l2 l3
  rcases v2 with _ | _
  · have hR := HE0.out (by first | rfl | simp)
    subst hR
    clear HE0 HE1 HX HW1 HW2
    obtain ⟨⟨u0, r0⟩, f0⟩ := HW.out 0 (by omega)
    obtain ⟨⟨u1, r1⟩, f1⟩ := HW.out 1 (by omega)
    obtain ⟨⟨u2, r2⟩, f2⟩ := HW.out 2 (by omega)
    obtain ⟨⟨u3, r3⟩, f3⟩ := HW.out 3 (by omega)
    have HP := Lib.hid (put_four (x := .slice none 0 0) (y := .slice none 0 0) (u := .slice none 0 0) (v := .slice none 0 0) HW.out)
    have HB4 := Lib.hid (below_put4 (g := w.heap.size + 1 + 1) (x := .slice none 0 0) (y := .slice none 0 0) (u := .slice none 0 0) (v := .slice none 0 0) HB.out (by omega))
    go_wp2_with fail
    generalize (((w3.setCell ⟨(w.heap.size + 1 + 1), 0, none⟩ (.slice none 0 0)).setCell ⟨(w.heap.size + 1 + 1), 1, none⟩ (.slice none 0 0)).setCell ⟨(w.heap.size + 1 + 1), 2, none⟩ (.slice none 0 0)).setCell ⟨(w.heap.size + 1 + 1), 3, none⟩ (.slice none 0 0) = W at *
    have q0 := HP.out.1.1
    have q1 := HP.out.1.2
    have q2 := HP.out.2.1
    have q3 := HP.out.2.2
    (try simp only [Exit.inBlock, Exit.then])
    refine bodyPost_ret (v := .tuple #[gv (.slice none 0 0) (.slice none 0 0) (.slice none 0 0) (.slice none 0 0), .int .i64 2]) (by rw [results_cell_tmp (fn := Tryz.f32) (p := 4) (u := 5) (ty := 27) rfl]; go_simp) rfl ?_
    exact ⟨_, _, _, _, rfl, Og.nil _ _, HB4.out⟩
  have hR := HE1.out (by first | rfl | trivial) (by first | rfl | trivial)
  obtain ⟨hX1, hX2⟩ := HX.out (by first | rfl | trivial) (by first | rfl | trivial)
  subst hR; subst hX1; subst hX2
  clear HE0 HE1 HX
  have HBs : Hid (w.heap.size + 1 + 1 + 1 ≤ w3.heap.size) := by have := HW.out.lt; show _ ≤ _; omega
  have k0 := HT.out.1.1
  have k1 := HT.out.1.2
  have k2 := HT.out.2.1
  have k3 := HT.out.2.2
  have l0 := HS.out.1.1
  have l1 := HS.out.1.2
  have l2 := HS.out.2.1
  have l3 := HS.out.2.2
  go_wp2_with fail
  refine (HW1.out _ HG.out HH.out).mono ?_
  rintro e w4 ⟨x, y, rfl, ho, hb⟩
  have HO1 := Lib.hid (ho.mono HBs.out)
  obtain ⟨p1, i1, p2, i2, rfl, rfl⟩ := HO1.out.shape
  replace HG := Lib.hid (HG.out.keep hb)
  replace HH := Lib.hid (HH.out.keep hb)
  replace HT := Lib.hid (HT.out.keep hb)
  replace HS := Lib.hid (HS.out.keep hb)
  replace HW := Lib.hid (HW.out.keep hb)
  replace HB := bel_tr HB hb
  replace HBs := Lib.hid (Nat.le_trans HBs.out hb.size)
  clear hb ho
  have HK := Lib.hid (F.two_new w4 (.slice p1 M1.1.length i1) (.slice p2 M1.2.length i2))
  have hb := bel_box w4 (cbox (.slice p1 M1.1.length i1) (.slice p2 M1.2.length i2))
  replace HO1 := Lib.hid (HO1.out.below hb)
  replace HG := Lib.hid (HG.out.keep hb)
  replace HH := Lib.hid (HH.out.keep hb)
  replace HT := Lib.hid (HT.out.keep hb)
  replace HS := Lib.hid (HS.out.keep hb)
  replace HW := Lib.hid (HW.out.keep hb)
  replace HB := bel_tr HB hb
  replace HBs := Lib.hid (Nat.le_trans HBs.out hb.size)
  clear hb HW1 k0 k1 k2 k3 l0 l1 l2 l3
  go_upto_region 4 with fail
  generalize w4.alloc (cbox (.slice p1 M1.1.length i1) (.slice p2 M1.2.length i2)) = wa at *
  generalize w4.heap.size = ga at *
  have k0 := HT.out.1.1
  have k1 := HT.out.1.2
  have k2 := HT.out.2.1
  have k3 := HT.out.2.2
  have l0 := HS.out.1.1
  have l1 := HS.out.1.2
  have l2 := HS.out.2.1
  have l3 := HS.out.2.2
  go_wp2_with fail
  refine (HW2.out _ HG.out HH.out).mono ?_
  rintro e w5 ⟨x, y, rfl, ho, hb⟩
  have HO2 := Lib.hid (ho.mono HBs.out)
  obtain ⟨p3, i3, p4, i4, rfl, rfl⟩ := HO2.out.shape
  replace HG := Lib.hid (HG.out.keep hb)
  replace HH := Lib.hid (HH.out.keep hb)
  replace HT := Lib.hid (HT.out.keep hb)
  replace HS := Lib.hid (HS.out.keep hb)
  replace HW := Lib.hid (HW.out.keep hb)
  replace HK := Lib.hid (HK.out.keep hb)
  replace HO1 := Lib.hid (HO1.out.below hb)
  replace HB := bel_tr HB hb
  replace HBs := Lib.hid (Nat.le_trans HBs.out hb.size)
  clear hb ho
  have HL := Lib.hid (F.two_new w5 (.slice p3 M2.1.length i3) (.slice p4 M2.2.length i4))
  have hb := bel_box w5 (cbox (.slice p3 M2.1.length i3) (.slice p4 M2.2.length i4))
  replace HG := Lib.hid (HG.out.keep hb)
  replace HH := Lib.hid (HH.out.keep hb)
  replace HT := Lib.hid (HT.out.keep hb)
  replace HS := Lib.hid (HS.out.keep hb)
  replace HW := Lib.hid (HW.out.keep hb)
  replace HK := Lib.hid (HK.out.keep hb)
  replace HO1 := Lib.hid (HO1.out.below hb)
  replace HO2 := Lib.hid (HO2.out.below hb)
  replace HB := bel_tr HB hb
  clear hb HW2 k0 k1 k2 k3 l0 l1 l2 l3
  go_upto_region 5 with fail
  generalize w5.alloc (cbox (.slice p3 M2.1.length i3) (.slice p4 M2.2.length i4)) = wb at *
  generalize w5.heap.size = gb at *
  have k0 := HK.out.1
  have k1 := HK.out.2
  have l0 := HL.out.1
  have l1 := HL.out.2
  obtain ⟨⟨u0, r0⟩, f0⟩ := HW.out 0 (by omega)
  obtain ⟨⟨u1, r1⟩, f1⟩ := HW.out 1 (by omega)
  obtain ⟨⟨u2, r2⟩, f2⟩ := HW.out 2 (by omega)
  obtain ⟨⟨u3, r3⟩, f3⟩ := HW.out 3 (by omega)
  have HP := Lib.hid (put_four (x := .slice p1 M1.1.length i1) (y := .slice p2 M1.2.length i2) (u := .slice p3 M2.1.length i3) (v := .slice p4 M2.2.length i4) HW.out)
  have HO3 : Hid (Og ((((wb.setCell ⟨(w.heap.size + 1 + 1), 0, none⟩ (.slice p1 M1.1.length i1)).setCell ⟨(w.heap.size + 1 + 1), 1, none⟩ (.slice p2 M1.2.length i2)).setCell ⟨(w.heap.size + 1 + 1), 2, none⟩ (.slice p3 M2.1.length i3)).setCell ⟨(w.heap.size + 1 + 1), 3, none⟩ (.slice p4 M2.2.length i4)) w.heap.size (.slice p1 M1.1.length i1) (.slice p2 M1.2.length i2) (.slice p3 M2.1.length i3) (.slice p4 M2.2.length i4) (M1, M2)) := ⟨(Ov.put4 HO1.out (Nat.lt_succ_self _)).mono (by omega), (Ov.put4 HO2.out (Nat.lt_succ_self _)).mono (by omega)⟩
  have HB4 := Lib.hid (below_put4 (g := w.heap.size + 1 + 1) (x := .slice p1 M1.1.length i1) (y := .slice p2 M1.2.length i2) (u := .slice p3 M2.1.length i3) (v := .slice p4 M2.2.length i4) HB.out (by omega))
  go_wp2_with fail
  generalize (((wb.setCell ⟨(w.heap.size + 1 + 1), 0, none⟩ (.slice p1 M1.1.length i1)).setCell ⟨(w.heap.size + 1 + 1), 1, none⟩ (.slice p2 M1.2.length i2)).setCell ⟨(w.heap.size + 1 + 1), 2, none⟩ (.slice p3 M2.1.length i3)).setCell ⟨(w.heap.size + 1 + 1), 3, none⟩ (.slice p4 M2.2.length i4) = W at *
  have q0 := HP.out.1.1
  have q1 := HP.out.1.2
  have q2 := HP.out.2.1
  have q3 := HP.out.2.2
  (try simp only [Exit.inBlock, Exit.then])
  refine bodyPost_ret (v := .tuple #[gv (.slice p1 M1.1.length i1) (.slice p2 M1.2.length i2) (.slice p3 M2.1.length i3) (.slice p4 M2.2.length i4), .int .i64 0]) (by rw [results_cell_tmp (fn := Tryz.f32) (p := 4) (u := 5) (ty := 27) rfl]; go_simp) rfl ?_
  exact ⟨_, _, _, _, rfl, HO3.out, HB4.out⟩
end Go.Proofs.YtgopkffgljiblaaGreat.Dg
