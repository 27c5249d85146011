/-
  Layer 16: the chapter's examples.
-/
import Derived.Test.YtgopkffgljiblaaGreatDgL
namespace Go.Proofs.YtgopkffgljiblaaGreat.Dg
set_option linter.unusedVariables false
open Go.RowKit V Go.Sort D Nd Qs Jn
open E (SV)
open F (Ct cv cbox Bc)
attribute [local irreducible] Sch.heldN Sch.stepV Sch.stepE

abbrev kA : Nt := ((1, 1), (0, 0), 1, 97)
abbrev kB : Nt := ((2, 1), (1, 1), 2, 0)
abbrev kC : Nt := ((1, 3), (1, 1), 3, 99)
abbrev kS : List Nt := [kA, kB, kC]
abbrev kD : Gt := (([(1, 1), (2, 1)], [(1, 3)]), ([(2, 1)], []))
abbrev kO : Ct := ([(1, 1)], [])
abbrev kX : Ct := ([], [(1, 2)])
abbrev k2 : Gt := (([(1, 1), (2, 1)], []), ([], []))
abbrev k3 : Gt := (([(1, 1)], [(1, 3)]), ([], []))
abbrev k4 : Gt := (([(1, 3), (2, 1)], []), ([(1, 3)], []))
theorem e1 : ofB kS = (kD, 0) := by decide
theorem e2 : diffB kS kD = ([], 0) := by decide
theorem e3 : diffB kS (([], []), [], []) = (kS, 0) := by decide
theorem e4 : diffB kS k2 = ([kB, kC], 0) := by decide
theorem e5 : diffB kS k3 = ([kB], 0) := by decide
theorem e6 : diffB kS k4 = ([kB], 0) := by decide
theorem e7 : validG (([(1, 1)], [(1, 2)]), [], []) = false := by decide
theorem e8 : validG (kO, ([(2, 1)], [])) = false := by decide
theorem e9 : withG (([], []), [], []) kD = (true, 0) := by decide
theorem e10 : mergB (kO, [], []) (kX, kX) = ((([(1, 2)], []), kX), 0) := by decide
def fitB (d : Dt) : Bool := (Lit.int .i64 d.1).wf && (Lit.int .i64 d.2).wf
theorem fitB_iff {d : Dt} : fitB d = true ↔ fitD d := by unfold fitB fitD; rw [Bool.and_eq_true]
theorem fitL {l : List Nt} (h : (l.all fun n => fitB n.1 && fitB n.2.1) = true) : ∀ x ∈ l, fitN x := fun x hx => by
  have := List.all_eq_true.1 h x hx
  rw [Bool.and_eq_true] at this
  exact ⟨fitB_iff.1 this.1, fitB_iff.1 this.2⟩
theorem kS_fit : ∀ x ∈ kS, fitN x := fitL (by decide)
theorem sv_lit {w : World} {g n : Nat} {l : List Dt} (h : RowD w (some ⟨g, 0, none⟩) l) (hn : n = l.length := by rfl) : SV w (.slice (some ⟨g, 0, none⟩) n n) l := by
  subst hn
  exact ⟨_, _, rfl, h, (fun h => by cases h), Nat.le_refl _⟩
theorem load_dig {w : World} {g : Nat} {x y u v : Value} (h : Gb w g x y u v) : (Instr.loadAt 27 (.pointer (some ⟨g, 0, none⟩))).run Tryz.prog w = .ok (gv x y u v) w := by
  obtain ⟨⟨h0, h1⟩, h2, h3⟩ := h
  go_simp
/-- The boxes that the last line reads. -/
def K3 (a b c : Nat) (x y u p q : Value) (w : World) : Prop := Gb w a x y u (.slice none 0 0) ∧ Bc w b p (.slice none 0 0) ∧ Bc w c (.slice none 0 0) q
theorem K3.keep {a b c : Nat} {x y u p q : Value} {w w' : World} (h : K3 a b c x y u p q w) (hb : Below w.heap.size w w') : K3 a b c x y u p q w' := ⟨h.1.keep hb, h.2.1.keep hb, h.2.2.keep hb⟩
theorem K3.d {a b c : Nat} {x y u p q : Value} : ∀ w, K3 a b c x y u p q w → (Instr.loadAt 27 (.pointer (some ⟨a, 0, none⟩))).run Tryz.prog w = .ok (gv x y u (.slice none 0 0)) w := fun w h => load_dig h.1
theorem K3.o {a b c : Nat} {x y u p q : Value} : ∀ w, K3 a b c x y u p q w → (Instr.loadAt 25 (.pointer (some ⟨b, 0, none⟩))).run Tryz.prog w = .ok (cv p (.slice none 0 0)) w := fun w h => F.load_ctx h.2.1
theorem K3.c {a b c : Nat} {x y u p q : Value} : ∀ w, K3 a b c x y u p q w → (Instr.loadAt 25 (.pointer (some ⟨c, 0, none⟩))).run Tryz.prog w = .ok (cv (.slice none 0 0) q) w := fun w h => F.load_ctx h.2.2
set_option maxRecDepth 100000 in
set_option maxHeartbeats 8000000 in
theorem known_any (w0 : World) : Calls Tryz.prog 7 #[] w0 fun e w' => e = .returned (.bool true) ∧ Below w0.heap.size w0 w' := by
  have HB := Lib.hid (Below.refl w0.heap.size w0)
  go_enter Tryz.func7, Tryz.ntmps7
  go_wp2_with fail
  refine (dot_law 1 1 _).mono ?_
  rintro e w3 ⟨rfl, hb⟩
  replace HB := bel_tr HB hb
  clear hb
  have hb := bel_box w3 (.cells #[.int .i64 1, .int .i64 1, .int .i64 0, .int .i64 0, .int .i64 1, .int .i32 97] 51)
  have HA : Hid (Nb (w3.alloc (.cells #[.int .i64 1, .int .i64 1, .int .i64 0, .int .i64 0, .int .i64 1, .int .i32 97] 51)) w3.heap.size kA) := Nb.new w3 kA
  replace HB := bel_tr HB hb
  clear hb
  go_wp2_with fail
  generalize w3.alloc (.cells #[.int .i64 1, .int .i64 1, .int .i64 0, .int .i64 0, .int .i64 1, .int .i32 97] 51) = w4 at *
  generalize w3.heap.size = g1 at *
  refine (dot_law 2 1 _).mono ?_
  rintro e w5 ⟨rfl, hb⟩
  replace HB := bel_tr HB hb
  replace HA := Lib.hid (HA.out.keep hb)
  clear hb
  go_wp2_with fail
  refine (dot_law 1 1 _).mono ?_
  rintro e w6 ⟨rfl, hb⟩
  replace HB := bel_tr HB hb
  replace HA := Lib.hid (HA.out.keep hb)
  clear hb
  have hb := bel_box w6 (.cells #[.int .i64 2, .int .i64 1, .int .i64 1, .int .i64 1, .int .i64 2, .int .i32 0] 51)
  have Hb : Hid (Nb (w6.alloc (.cells #[.int .i64 2, .int .i64 1, .int .i64 1, .int .i64 1, .int .i64 2, .int .i32 0] 51)) w6.heap.size kB) := Nb.new w6 kB
  replace HB := bel_tr HB hb
  replace HA := Lib.hid (HA.out.keep hb)
  clear hb
  go_wp2_with fail
  generalize w6.alloc (.cells #[.int .i64 2, .int .i64 1, .int .i64 1, .int .i64 1, .int .i64 2, .int .i32 0] 51) = w7 at *
  generalize w6.heap.size = g2 at *
  refine (dot_law 1 3 _).mono ?_
  rintro e w8 ⟨rfl, hb⟩
  replace HB := bel_tr HB hb
  replace HA := Lib.hid (HA.out.keep hb)
  replace Hb := Lib.hid (Hb.out.keep hb)
  clear hb
  go_wp2_with fail
  refine (dot_law 1 1 _).mono ?_
  rintro e w9 ⟨rfl, hb⟩
  replace HB := bel_tr HB hb
  replace HA := Lib.hid (HA.out.keep hb)
  replace Hb := Lib.hid (Hb.out.keep hb)
  clear hb
  have hb := bel_box w9 (.cells #[.int .i64 1, .int .i64 3, .int .i64 1, .int .i64 1, .int .i64 3, .int .i32 99] 51)
  have HC : Hid (Nb (w9.alloc (.cells #[.int .i64 1, .int .i64 3, .int .i64 1, .int .i64 1, .int .i64 3, .int .i32 99] 51)) w9.heap.size kC) := Nb.new w9 kC
  replace HB := bel_tr HB hb
  replace HA := Lib.hid (HA.out.keep hb)
  replace Hb := Lib.hid (Hb.out.keep hb)
  clear hb
  go_upto_region 4 with fail
  generalize w9.alloc (.cells #[.int .i64 1, .int .i64 3, .int .i64 1, .int .i64 1, .int .i64 3, .int .i32 99] 51) = w10 at *
  generalize w9.heap.size = g3 at *
  obtain ⟨HA0, HA1, HA2, HA3, HA4, HA5⟩ := HA.out
  obtain ⟨Hb0, Hb1, Hb2, Hb3, Hb4, Hb5⟩ := Hb.out
  obtain ⟨HC0, HC1, HC2, HC3, HC4, HC5⟩ := HC.out
  have hb := bel_box w10 (.cells #[.int .i64 1, .int .i64 1, .int .i64 0, .int .i64 0, .int .i64 1, .int .i32 97, .int .i64 2, .int .i64 1, .int .i64 1, .int .i64 1, .int .i64 2, .int .i32 0, .int .i64 1, .int .i64 3, .int .i64 1, .int .i64 1, .int .i64 3, .int .i32 99] 51)
  have HS : Hid (RowN (w10.alloc (.cells #[.int .i64 1, .int .i64 1, .int .i64 0, .int .i64 0, .int .i64 1, .int .i32 97, .int .i64 2, .int .i64 1, .int .i64 1, .int .i64 1, .int .i64 2, .int .i32 0, .int .i64 1, .int .i64 3, .int .i64 1, .int .i64 1, .int .i64 3, .int .i32 99] 51)) (some ⟨w10.heap.size, 0, none⟩) kS) := RowN.lit w10 kS _ _ _ rfl
  replace HB := bel_tr HB hb
  replace HA := Lib.hid (HA.out.keep hb)
  replace Hb := Lib.hid (Hb.out.keep hb)
  replace HC := Lib.hid (HC.out.keep hb)
  clear hb
  go_upto_region 5 with fail
  generalize w10.alloc (.cells #[.int .i64 1, .int .i64 1, .int .i64 0, .int .i64 0, .int .i64 1, .int .i32 97, .int .i64 2, .int .i64 1, .int .i64 1, .int .i64 1, .int .i64 2, .int .i32 0, .int .i64 1, .int .i64 3, .int .i64 1, .int .i64 1, .int .i64 3, .int .i32 99] 51) = w11 at *
  generalize w10.heap.size = gs at *
  clear HA0 HA1 HA2 HA3 HA4 HA5 Hb0 Hb1 Hb2 Hb3 Hb4 Hb5 HC0 HC1 HC2 HC3 HC4 HC5 HA
  go_wp2_with fail
  refine (dot_law 1 1 _).mono ?_
  rintro e w12 ⟨rfl, hb⟩
  replace HB := bel_tr HB hb
  replace Hb := Lib.hid (Hb.out.keep hb)
  replace HC := Lib.hid (HC.out.keep hb)
  replace HS := Lib.hid (HS.out.keep hb)
  clear hb
  go_wp2_with fail
  refine (dot_law 2 1 _).mono ?_
  rintro e w13 ⟨rfl, hb⟩
  replace HB := bel_tr HB hb
  replace Hb := Lib.hid (Hb.out.keep hb)
  replace HC := Lib.hid (HC.out.keep hb)
  replace HS := Lib.hid (HS.out.keep hb)
  clear hb
  have hb := bel_box w13 (.cells #[.int .i64 1, .int .i64 1, .int .i64 2, .int .i64 1] 48)
  have R1 : Hid (RowD (w13.alloc (.cells #[.int .i64 1, .int .i64 1, .int .i64 2, .int .i64 1] 48)) (some ⟨w13.heap.size, 0, none⟩) [(1, 1), (2, 1)]) := RowD.lit w13 [(1, 1), (2, 1)] _ _ _ rfl
  replace HB := bel_tr HB hb
  replace Hb := Lib.hid (Hb.out.keep hb)
  replace HC := Lib.hid (HC.out.keep hb)
  replace HS := Lib.hid (HS.out.keep hb)
  clear hb
  go_wp2_with fail
  generalize w13.alloc (.cells #[.int .i64 1, .int .i64 1, .int .i64 2, .int .i64 1] 48) = w14 at *
  generalize w13.heap.size = r1 at *
  refine (dot_law 1 3 _).mono ?_
  rintro e w15 ⟨rfl, hb⟩
  replace HB := bel_tr HB hb
  replace Hb := Lib.hid (Hb.out.keep hb)
  replace HC := Lib.hid (HC.out.keep hb)
  replace HS := Lib.hid (HS.out.keep hb)
  replace R1 := Lib.hid (R1.out.keep hb)
  clear hb
  have hb := bel_box w15 (.cells #[.int .i64 1, .int .i64 3] 48)
  have R2 : Hid (RowD (w15.alloc (.cells #[.int .i64 1, .int .i64 3] 48)) (some ⟨w15.heap.size, 0, none⟩) [(1, 3)]) := RowD.lit w15 [(1, 3)] _ _ _ rfl
  replace HB := bel_tr HB hb
  replace Hb := Lib.hid (Hb.out.keep hb)
  replace HC := Lib.hid (HC.out.keep hb)
  replace HS := Lib.hid (HS.out.keep hb)
  replace R1 := Lib.hid (R1.out.keep hb)
  clear hb
  go_wp2_with fail
  generalize w15.alloc (.cells #[.int .i64 1, .int .i64 3] 48) = w16 at *
  generalize w15.heap.size = r2 at *
  refine (dot_law 2 1 _).mono ?_
  rintro e w17 ⟨rfl, hb⟩
  replace HB := bel_tr HB hb
  replace Hb := Lib.hid (Hb.out.keep hb)
  replace HC := Lib.hid (HC.out.keep hb)
  replace HS := Lib.hid (HS.out.keep hb)
  replace R1 := Lib.hid (R1.out.keep hb)
  replace R2 := Lib.hid (R2.out.keep hb)
  clear hb
  have hb := bel_box w17 (.cells #[.int .i64 2, .int .i64 1] 48)
  have R3 : Hid (RowD (w17.alloc (.cells #[.int .i64 2, .int .i64 1] 48)) (some ⟨w17.heap.size, 0, none⟩) [(2, 1)]) := RowD.lit w17 [(2, 1)] _ _ _ rfl
  replace HB := bel_tr HB hb
  replace Hb := Lib.hid (Hb.out.keep hb)
  replace HC := Lib.hid (HC.out.keep hb)
  replace HS := Lib.hid (HS.out.keep hb)
  replace R1 := Lib.hid (R1.out.keep hb)
  replace R2 := Lib.hid (R2.out.keep hb)
  clear hb
  have hz : (w17.alloc (.cells #[.int .i64 2, .int .i64 1] 48)).heap.size = w17.heap.size + 1 := by simp
  have Hd := Lib.hid (four_new (w17.alloc (.cells #[.int .i64 2, .int .i64 1] 48)) (.slice (some ⟨r1, 0, none⟩) 2 2) (.slice (some ⟨r2, 0, none⟩) 1 1) (.slice (some ⟨w17.heap.size, 0, none⟩) 1 1) (.slice none 0 0))
  rw [hz] at Hd
  have hb := bel_box (w17.alloc (.cells #[.int .i64 2, .int .i64 1] 48)) (gbox (.slice (some ⟨r1, 0, none⟩) 2 2) (.slice (some ⟨r2, 0, none⟩) 1 1) (.slice (some ⟨w17.heap.size, 0, none⟩) 1 1) (.slice none 0 0))
  replace HB := bel_tr HB hb
  replace Hb := Lib.hid (Hb.out.keep hb)
  replace HC := Lib.hid (HC.out.keep hb)
  replace HS := Lib.hid (HS.out.keep hb)
  replace R1 := Lib.hid (R1.out.keep hb)
  replace R2 := Lib.hid (R2.out.keep hb)
  replace R3 := Lib.hid (R3.out.keep hb)
  clear hb hz
  go_upto_region 6 with fail
  generalize (w17.alloc (.cells #[.int .i64 2, .int .i64 1] 48)).alloc (gbox (.slice (some ⟨r1, 0, none⟩) 2 2) (.slice (some ⟨r2, 0, none⟩) 1 1) (.slice (some ⟨w17.heap.size, 0, none⟩) 1 1) (.slice none 0 0)) = w18 at *
  generalize w17.heap.size + 1 = bHd at *
  generalize w17.heap.size = r3 at *
  have GHd : Hid (Gx w18 (.slice (some ⟨r1, 0, none⟩) 2 2) (.slice (some ⟨r2, 0, none⟩) 1 1) (.slice (some ⟨r3, 0, none⟩) 1 1) (.slice none 0 0) kD) := Lib.hid ⟨⟨(sv_lit R1.out), (sv_lit R2.out)⟩, (sv_lit R3.out), (SV.nil _)⟩
  clear R1 R2 R3
  have HF := Lib.hid kS_fit
  have k0 := Hd.out.1.1
  have k1 := Hd.out.1.2
  have k2 := Hd.out.2.1
  have k3 := Hd.out.2.2
  go_wp2_with fail
  refine (ofs_true e1 rfl HS.out (by decide) GHd.out ⟨⟨by decide, by decide⟩, by decide, by decide⟩).mono ?_
  rintro e w19 ⟨rfl, hb⟩
  replace HB := bel_tr HB hb
  replace Hb := Lib.hid (Hb.out.keep hb)
  replace HC := Lib.hid (HC.out.keep hb)
  replace HS := Lib.hid (HS.out.keep hb)
  replace Hd := Lib.hid (Hd.out.keep hb)
  replace GHd := Lib.hid (GHd.out.keep hb)
  clear hb k0 k1 k2 k3
  have k0 := Hd.out.1.1
  have k1 := Hd.out.1.2
  have k2 := Hd.out.2.1
  have k3 := Hd.out.2.2
  go_wp2_with fail
  refine (diffs_true e2 rfl rfl HF.out HS.out (by decide) GHd.out ⟨⟨by decide, by decide⟩, by decide, by decide⟩ (RowN.nil _ _) (by decide)).mono ?_
  rintro e w20 ⟨rfl, hb⟩
  replace HB := bel_tr HB hb
  replace Hb := Lib.hid (Hb.out.keep hb)
  replace HC := Lib.hid (HC.out.keep hb)
  replace HS := Lib.hid (HS.out.keep hb)
  replace Hd := Lib.hid (Hd.out.keep hb)
  replace GHd := Lib.hid (GHd.out.keep hb)
  clear hb k0 k1 k2 k3
  go_wp2_with fail
  refine (diffs_true e3 rfl rfl HF.out HS.out (by decide) (Gx.nil _) ⟨⟨by decide, by decide⟩, by decide, by decide⟩ HS.out (by decide)).mono ?_
  rintro e w21 ⟨rfl, hb⟩
  replace HB := bel_tr HB hb
  replace Hb := Lib.hid (Hb.out.keep hb)
  replace HC := Lib.hid (HC.out.keep hb)
  replace HS := Lib.hid (HS.out.keep hb)
  replace Hd := Lib.hid (Hd.out.keep hb)
  replace GHd := Lib.hid (GHd.out.keep hb)
  clear hb
  go_wp2_with fail
  refine (dot_law 1 1 _).mono ?_
  rintro e w22 ⟨rfl, hb⟩
  replace HB := bel_tr HB hb
  replace Hb := Lib.hid (Hb.out.keep hb)
  replace HC := Lib.hid (HC.out.keep hb)
  replace HS := Lib.hid (HS.out.keep hb)
  replace Hd := Lib.hid (Hd.out.keep hb)
  replace GHd := Lib.hid (GHd.out.keep hb)
  clear hb
  have hb := bel_box w22 (.cells #[.int .i64 1, .int .i64 1] 48)
  have R4 : Hid (RowD (w22.alloc (.cells #[.int .i64 1, .int .i64 1] 48)) (some ⟨w22.heap.size, 0, none⟩) [(1, 1)]) := RowD.lit w22 [(1, 1)] _ _ _ rfl
  replace HB := bel_tr HB hb
  replace Hb := Lib.hid (Hb.out.keep hb)
  replace HC := Lib.hid (HC.out.keep hb)
  replace HS := Lib.hid (HS.out.keep hb)
  replace Hd := Lib.hid (Hd.out.keep hb)
  replace GHd := Lib.hid (GHd.out.keep hb)
  clear hb
  have hz : (w22.alloc (.cells #[.int .i64 1, .int .i64 1] 48)).heap.size = w22.heap.size + 1 := by simp
  have Ho := Lib.hid (F.two_new (w22.alloc (.cells #[.int .i64 1, .int .i64 1] 48)) (.slice (some ⟨w22.heap.size, 0, none⟩) 1 1) (.slice none 0 0))
  rw [hz] at Ho
  have hb := bel_box (w22.alloc (.cells #[.int .i64 1, .int .i64 1] 48)) (cbox (.slice (some ⟨w22.heap.size, 0, none⟩) 1 1) (.slice none 0 0))
  replace HB := bel_tr HB hb
  replace Hb := Lib.hid (Hb.out.keep hb)
  replace HC := Lib.hid (HC.out.keep hb)
  replace HS := Lib.hid (HS.out.keep hb)
  replace Hd := Lib.hid (Hd.out.keep hb)
  replace GHd := Lib.hid (GHd.out.keep hb)
  replace R4 := Lib.hid (R4.out.keep hb)
  clear hb hz
  go_upto_region 9 with fail
  generalize (w22.alloc (.cells #[.int .i64 1, .int .i64 1] 48)).alloc (cbox (.slice (some ⟨w22.heap.size, 0, none⟩) 1 1) (.slice none 0 0)) = w23 at *
  generalize w22.heap.size + 1 = bHo at *
  generalize w22.heap.size = r4 at *
  have GHo : Hid (Kx w23 (.slice (some ⟨r4, 0, none⟩) 1 1) (.slice none 0 0) kO) := Lib.hid ⟨(sv_lit R4.out), (SV.nil _)⟩
  clear R4
  go_wp2_with fail
  refine (dot_law 1 1 _).mono ?_
  rintro e w24 ⟨rfl, hb⟩
  replace HB := bel_tr HB hb
  replace Hb := Lib.hid (Hb.out.keep hb)
  replace HC := Lib.hid (HC.out.keep hb)
  replace HS := Lib.hid (HS.out.keep hb)
  replace Hd := Lib.hid (Hd.out.keep hb)
  replace GHd := Lib.hid (GHd.out.keep hb)
  replace Ho := Lib.hid (Ho.out.keep hb)
  replace GHo := Lib.hid (GHo.out.keep hb)
  clear hb
  go_wp2_with fail
  refine (dot_law 2 1 _).mono ?_
  rintro e w25 ⟨rfl, hb⟩
  replace HB := bel_tr HB hb
  replace Hb := Lib.hid (Hb.out.keep hb)
  replace HC := Lib.hid (HC.out.keep hb)
  replace HS := Lib.hid (HS.out.keep hb)
  replace Hd := Lib.hid (Hd.out.keep hb)
  replace GHd := Lib.hid (GHd.out.keep hb)
  replace Ho := Lib.hid (Ho.out.keep hb)
  replace GHo := Lib.hid (GHo.out.keep hb)
  clear hb
  have hb := bel_box w25 (.cells #[.int .i64 1, .int .i64 1, .int .i64 2, .int .i64 1] 48)
  have R5 : Hid (RowD (w25.alloc (.cells #[.int .i64 1, .int .i64 1, .int .i64 2, .int .i64 1] 48)) (some ⟨w25.heap.size, 0, none⟩) [(1, 1), (2, 1)]) := RowD.lit w25 [(1, 1), (2, 1)] _ _ _ rfl
  replace HB := bel_tr HB hb
  replace Hb := Lib.hid (Hb.out.keep hb)
  replace HC := Lib.hid (HC.out.keep hb)
  replace HS := Lib.hid (HS.out.keep hb)
  replace Hd := Lib.hid (Hd.out.keep hb)
  replace GHd := Lib.hid (GHd.out.keep hb)
  replace Ho := Lib.hid (Ho.out.keep hb)
  replace GHo := Lib.hid (GHo.out.keep hb)
  clear hb
  have hz : (w25.alloc (.cells #[.int .i64 1, .int .i64 1, .int .i64 2, .int .i64 1] 48)).heap.size = w25.heap.size + 1 := by simp
  have H2 := Lib.hid (four_new (w25.alloc (.cells #[.int .i64 1, .int .i64 1, .int .i64 2, .int .i64 1] 48)) (.slice (some ⟨w25.heap.size, 0, none⟩) 2 2) (.slice none 0 0) (.slice none 0 0) (.slice none 0 0))
  rw [hz] at H2
  have hb := bel_box (w25.alloc (.cells #[.int .i64 1, .int .i64 1, .int .i64 2, .int .i64 1] 48)) (gbox (.slice (some ⟨w25.heap.size, 0, none⟩) 2 2) (.slice none 0 0) (.slice none 0 0) (.slice none 0 0))
  replace HB := bel_tr HB hb
  replace Hb := Lib.hid (Hb.out.keep hb)
  replace HC := Lib.hid (HC.out.keep hb)
  replace HS := Lib.hid (HS.out.keep hb)
  replace Hd := Lib.hid (Hd.out.keep hb)
  replace GHd := Lib.hid (GHd.out.keep hb)
  replace Ho := Lib.hid (Ho.out.keep hb)
  replace GHo := Lib.hid (GHo.out.keep hb)
  replace R5 := Lib.hid (R5.out.keep hb)
  clear hb hz
  go_upto_region 10 with fail
  generalize (w25.alloc (.cells #[.int .i64 1, .int .i64 1, .int .i64 2, .int .i64 1] 48)).alloc (gbox (.slice (some ⟨w25.heap.size, 0, none⟩) 2 2) (.slice none 0 0) (.slice none 0 0) (.slice none 0 0)) = w26 at *
  generalize w25.heap.size + 1 = bH2 at *
  generalize w25.heap.size = r5 at *
  have GH2 : Hid (Gx w26 (.slice (some ⟨r5, 0, none⟩) 2 2) (.slice none 0 0) (.slice none 0 0) (.slice none 0 0) k2) := Lib.hid ⟨⟨(sv_lit R5.out), (SV.nil _)⟩, (SV.nil _), (SV.nil _)⟩
  clear R5
  go_wp2_with fail
  refine (dot_law 1 1 _).mono ?_
  rintro e w27 ⟨rfl, hb⟩
  replace HB := bel_tr HB hb
  replace Hb := Lib.hid (Hb.out.keep hb)
  replace HC := Lib.hid (HC.out.keep hb)
  replace HS := Lib.hid (HS.out.keep hb)
  replace Hd := Lib.hid (Hd.out.keep hb)
  replace GHd := Lib.hid (GHd.out.keep hb)
  replace Ho := Lib.hid (Ho.out.keep hb)
  replace GHo := Lib.hid (GHo.out.keep hb)
  replace H2 := Lib.hid (H2.out.keep hb)
  replace GH2 := Lib.hid (GH2.out.keep hb)
  clear hb
  have hb := bel_box w27 (.cells #[.int .i64 1, .int .i64 1] 48)
  have R6 : Hid (RowD (w27.alloc (.cells #[.int .i64 1, .int .i64 1] 48)) (some ⟨w27.heap.size, 0, none⟩) [(1, 1)]) := RowD.lit w27 [(1, 1)] _ _ _ rfl
  replace HB := bel_tr HB hb
  replace Hb := Lib.hid (Hb.out.keep hb)
  replace HC := Lib.hid (HC.out.keep hb)
  replace HS := Lib.hid (HS.out.keep hb)
  replace Hd := Lib.hid (Hd.out.keep hb)
  replace GHd := Lib.hid (GHd.out.keep hb)
  replace Ho := Lib.hid (Ho.out.keep hb)
  replace GHo := Lib.hid (GHo.out.keep hb)
  replace H2 := Lib.hid (H2.out.keep hb)
  replace GH2 := Lib.hid (GH2.out.keep hb)
  clear hb
  go_wp2_with fail
  generalize w27.alloc (.cells #[.int .i64 1, .int .i64 1] 48) = w28 at *
  generalize w27.heap.size = r6 at *
  refine (dot_law 1 3 _).mono ?_
  rintro e w29 ⟨rfl, hb⟩
  replace HB := bel_tr HB hb
  replace Hb := Lib.hid (Hb.out.keep hb)
  replace HC := Lib.hid (HC.out.keep hb)
  replace HS := Lib.hid (HS.out.keep hb)
  replace Hd := Lib.hid (Hd.out.keep hb)
  replace GHd := Lib.hid (GHd.out.keep hb)
  replace Ho := Lib.hid (Ho.out.keep hb)
  replace GHo := Lib.hid (GHo.out.keep hb)
  replace H2 := Lib.hid (H2.out.keep hb)
  replace GH2 := Lib.hid (GH2.out.keep hb)
  replace R6 := Lib.hid (R6.out.keep hb)
  clear hb
  have hb := bel_box w29 (.cells #[.int .i64 1, .int .i64 3] 48)
  have R7 : Hid (RowD (w29.alloc (.cells #[.int .i64 1, .int .i64 3] 48)) (some ⟨w29.heap.size, 0, none⟩) [(1, 3)]) := RowD.lit w29 [(1, 3)] _ _ _ rfl
  replace HB := bel_tr HB hb
  replace Hb := Lib.hid (Hb.out.keep hb)
  replace HC := Lib.hid (HC.out.keep hb)
  replace HS := Lib.hid (HS.out.keep hb)
  replace Hd := Lib.hid (Hd.out.keep hb)
  replace GHd := Lib.hid (GHd.out.keep hb)
  replace Ho := Lib.hid (Ho.out.keep hb)
  replace GHo := Lib.hid (GHo.out.keep hb)
  replace H2 := Lib.hid (H2.out.keep hb)
  replace GH2 := Lib.hid (GH2.out.keep hb)
  replace R6 := Lib.hid (R6.out.keep hb)
  clear hb
  have hz : (w29.alloc (.cells #[.int .i64 1, .int .i64 3] 48)).heap.size = w29.heap.size + 1 := by simp
  have H3 := Lib.hid (four_new (w29.alloc (.cells #[.int .i64 1, .int .i64 3] 48)) (.slice (some ⟨r6, 0, none⟩) 1 1) (.slice (some ⟨w29.heap.size, 0, none⟩) 1 1) (.slice none 0 0) (.slice none 0 0))
  rw [hz] at H3
  have hb := bel_box (w29.alloc (.cells #[.int .i64 1, .int .i64 3] 48)) (gbox (.slice (some ⟨r6, 0, none⟩) 1 1) (.slice (some ⟨w29.heap.size, 0, none⟩) 1 1) (.slice none 0 0) (.slice none 0 0))
  replace HB := bel_tr HB hb
  replace Hb := Lib.hid (Hb.out.keep hb)
  replace HC := Lib.hid (HC.out.keep hb)
  replace HS := Lib.hid (HS.out.keep hb)
  replace Hd := Lib.hid (Hd.out.keep hb)
  replace GHd := Lib.hid (GHd.out.keep hb)
  replace Ho := Lib.hid (Ho.out.keep hb)
  replace GHo := Lib.hid (GHo.out.keep hb)
  replace H2 := Lib.hid (H2.out.keep hb)
  replace GH2 := Lib.hid (GH2.out.keep hb)
  replace R6 := Lib.hid (R6.out.keep hb)
  replace R7 := Lib.hid (R7.out.keep hb)
  clear hb hz
  go_upto_region 11 with fail
  generalize (w29.alloc (.cells #[.int .i64 1, .int .i64 3] 48)).alloc (gbox (.slice (some ⟨r6, 0, none⟩) 1 1) (.slice (some ⟨w29.heap.size, 0, none⟩) 1 1) (.slice none 0 0) (.slice none 0 0)) = w30 at *
  generalize w29.heap.size + 1 = bH3 at *
  generalize w29.heap.size = r7 at *
  have GH3 : Hid (Gx w30 (.slice (some ⟨r6, 0, none⟩) 1 1) (.slice (some ⟨r7, 0, none⟩) 1 1) (.slice none 0 0) (.slice none 0 0) k3) := Lib.hid ⟨⟨(sv_lit R6.out), (sv_lit R7.out)⟩, (SV.nil _), (SV.nil _)⟩
  clear R6 R7
  go_wp2_with fail
  refine (dot_law 1 3 _).mono ?_
  rintro e w31 ⟨rfl, hb⟩
  replace HB := bel_tr HB hb
  replace Hb := Lib.hid (Hb.out.keep hb)
  replace HC := Lib.hid (HC.out.keep hb)
  replace HS := Lib.hid (HS.out.keep hb)
  replace Hd := Lib.hid (Hd.out.keep hb)
  replace GHd := Lib.hid (GHd.out.keep hb)
  replace Ho := Lib.hid (Ho.out.keep hb)
  replace GHo := Lib.hid (GHo.out.keep hb)
  replace H2 := Lib.hid (H2.out.keep hb)
  replace GH2 := Lib.hid (GH2.out.keep hb)
  replace H3 := Lib.hid (H3.out.keep hb)
  replace GH3 := Lib.hid (GH3.out.keep hb)
  clear hb
  go_wp2_with fail
  refine (dot_law 2 1 _).mono ?_
  rintro e w32 ⟨rfl, hb⟩
  replace HB := bel_tr HB hb
  replace Hb := Lib.hid (Hb.out.keep hb)
  replace HC := Lib.hid (HC.out.keep hb)
  replace HS := Lib.hid (HS.out.keep hb)
  replace Hd := Lib.hid (Hd.out.keep hb)
  replace GHd := Lib.hid (GHd.out.keep hb)
  replace Ho := Lib.hid (Ho.out.keep hb)
  replace GHo := Lib.hid (GHo.out.keep hb)
  replace H2 := Lib.hid (H2.out.keep hb)
  replace GH2 := Lib.hid (GH2.out.keep hb)
  replace H3 := Lib.hid (H3.out.keep hb)
  replace GH3 := Lib.hid (GH3.out.keep hb)
  clear hb
  have hb := bel_box w32 (.cells #[.int .i64 1, .int .i64 3, .int .i64 2, .int .i64 1] 48)
  have R8 : Hid (RowD (w32.alloc (.cells #[.int .i64 1, .int .i64 3, .int .i64 2, .int .i64 1] 48)) (some ⟨w32.heap.size, 0, none⟩) [(1, 3), (2, 1)]) := RowD.lit w32 [(1, 3), (2, 1)] _ _ _ rfl
  replace HB := bel_tr HB hb
  replace Hb := Lib.hid (Hb.out.keep hb)
  replace HC := Lib.hid (HC.out.keep hb)
  replace HS := Lib.hid (HS.out.keep hb)
  replace Hd := Lib.hid (Hd.out.keep hb)
  replace GHd := Lib.hid (GHd.out.keep hb)
  replace Ho := Lib.hid (Ho.out.keep hb)
  replace GHo := Lib.hid (GHo.out.keep hb)
  replace H2 := Lib.hid (H2.out.keep hb)
  replace GH2 := Lib.hid (GH2.out.keep hb)
  replace H3 := Lib.hid (H3.out.keep hb)
  replace GH3 := Lib.hid (GH3.out.keep hb)
  clear hb
  go_wp2_with fail
  generalize w32.alloc (.cells #[.int .i64 1, .int .i64 3, .int .i64 2, .int .i64 1] 48) = w33 at *
  generalize w32.heap.size = r8 at *
  refine (dot_law 1 3 _).mono ?_
  rintro e w34 ⟨rfl, hb⟩
  replace HB := bel_tr HB hb
  replace Hb := Lib.hid (Hb.out.keep hb)
  replace HC := Lib.hid (HC.out.keep hb)
  replace HS := Lib.hid (HS.out.keep hb)
  replace Hd := Lib.hid (Hd.out.keep hb)
  replace GHd := Lib.hid (GHd.out.keep hb)
  replace Ho := Lib.hid (Ho.out.keep hb)
  replace GHo := Lib.hid (GHo.out.keep hb)
  replace H2 := Lib.hid (H2.out.keep hb)
  replace GH2 := Lib.hid (GH2.out.keep hb)
  replace H3 := Lib.hid (H3.out.keep hb)
  replace GH3 := Lib.hid (GH3.out.keep hb)
  replace R8 := Lib.hid (R8.out.keep hb)
  clear hb
  have hb := bel_box w34 (.cells #[.int .i64 1, .int .i64 3] 48)
  have R9 : Hid (RowD (w34.alloc (.cells #[.int .i64 1, .int .i64 3] 48)) (some ⟨w34.heap.size, 0, none⟩) [(1, 3)]) := RowD.lit w34 [(1, 3)] _ _ _ rfl
  replace HB := bel_tr HB hb
  replace Hb := Lib.hid (Hb.out.keep hb)
  replace HC := Lib.hid (HC.out.keep hb)
  replace HS := Lib.hid (HS.out.keep hb)
  replace Hd := Lib.hid (Hd.out.keep hb)
  replace GHd := Lib.hid (GHd.out.keep hb)
  replace Ho := Lib.hid (Ho.out.keep hb)
  replace GHo := Lib.hid (GHo.out.keep hb)
  replace H2 := Lib.hid (H2.out.keep hb)
  replace GH2 := Lib.hid (GH2.out.keep hb)
  replace H3 := Lib.hid (H3.out.keep hb)
  replace GH3 := Lib.hid (GH3.out.keep hb)
  replace R8 := Lib.hid (R8.out.keep hb)
  clear hb
  have hz : (w34.alloc (.cells #[.int .i64 1, .int .i64 3] 48)).heap.size = w34.heap.size + 1 := by simp
  have H4 := Lib.hid (four_new (w34.alloc (.cells #[.int .i64 1, .int .i64 3] 48)) (.slice (some ⟨r8, 0, none⟩) 2 2) (.slice none 0 0) (.slice (some ⟨w34.heap.size, 0, none⟩) 1 1) (.slice none 0 0))
  rw [hz] at H4
  have hb := bel_box (w34.alloc (.cells #[.int .i64 1, .int .i64 3] 48)) (gbox (.slice (some ⟨r8, 0, none⟩) 2 2) (.slice none 0 0) (.slice (some ⟨w34.heap.size, 0, none⟩) 1 1) (.slice none 0 0))
  replace HB := bel_tr HB hb
  replace Hb := Lib.hid (Hb.out.keep hb)
  replace HC := Lib.hid (HC.out.keep hb)
  replace HS := Lib.hid (HS.out.keep hb)
  replace Hd := Lib.hid (Hd.out.keep hb)
  replace GHd := Lib.hid (GHd.out.keep hb)
  replace Ho := Lib.hid (Ho.out.keep hb)
  replace GHo := Lib.hid (GHo.out.keep hb)
  replace H2 := Lib.hid (H2.out.keep hb)
  replace GH2 := Lib.hid (GH2.out.keep hb)
  replace H3 := Lib.hid (H3.out.keep hb)
  replace GH3 := Lib.hid (GH3.out.keep hb)
  replace R8 := Lib.hid (R8.out.keep hb)
  replace R9 := Lib.hid (R9.out.keep hb)
  clear hb hz
  go_upto_region 12 with fail
  generalize (w34.alloc (.cells #[.int .i64 1, .int .i64 3] 48)).alloc (gbox (.slice (some ⟨r8, 0, none⟩) 2 2) (.slice none 0 0) (.slice (some ⟨w34.heap.size, 0, none⟩) 1 1) (.slice none 0 0)) = w35 at *
  generalize w34.heap.size + 1 = bH4 at *
  generalize w34.heap.size = r9 at *
  have GH4 : Hid (Gx w35 (.slice (some ⟨r8, 0, none⟩) 2 2) (.slice none 0 0) (.slice (some ⟨r9, 0, none⟩) 1 1) (.slice none 0 0) k4) := Lib.hid ⟨⟨(sv_lit R8.out), (SV.nil _)⟩, (sv_lit R9.out), (SV.nil _)⟩
  clear R8 R9
  have k0 := H2.out.1.1
  have k1 := H2.out.1.2
  have k2 := H2.out.2.1
  have k3 := H2.out.2.2
  obtain ⟨Hb0, Hb1, Hb2, Hb3, Hb4, Hb5⟩ := Hb.out
  obtain ⟨HC0, HC1, HC2, HC3, HC4, HC5⟩ := HC.out
  have hb := bel_box w35 (.cells #[.int .i64 2, .int .i64 1, .int .i64 1, .int .i64 1, .int .i64 2, .int .i32 0, .int .i64 1, .int .i64 3, .int .i64 1, .int .i64 1, .int .i64 3, .int .i32 99] 51)
  have Rn0 : Hid (RowN (w35.alloc (.cells #[.int .i64 2, .int .i64 1, .int .i64 1, .int .i64 1, .int .i64 2, .int .i32 0, .int .i64 1, .int .i64 3, .int .i64 1, .int .i64 1, .int .i64 3, .int .i32 99] 51)) (some ⟨w35.heap.size, 0, none⟩) [kB, kC]) := RowN.lit w35 [kB, kC] _ _ _ rfl
  replace HB := bel_tr HB hb
  replace Hb := Lib.hid (Hb.out.keep hb)
  replace HC := Lib.hid (HC.out.keep hb)
  replace HS := Lib.hid (HS.out.keep hb)
  replace Hd := Lib.hid (Hd.out.keep hb)
  replace GHd := Lib.hid (GHd.out.keep hb)
  replace Ho := Lib.hid (Ho.out.keep hb)
  replace GHo := Lib.hid (GHo.out.keep hb)
  replace H2 := Lib.hid (H2.out.keep hb)
  replace GH2 := Lib.hid (GH2.out.keep hb)
  replace H3 := Lib.hid (H3.out.keep hb)
  replace GH3 := Lib.hid (GH3.out.keep hb)
  replace H4 := Lib.hid (H4.out.keep hb)
  replace GH4 := Lib.hid (GH4.out.keep hb)
  clear hb
  go_wp2_with fail
  clear k0 k1 k2 k3 Hb0 Hb1 Hb2 Hb3 Hb4 Hb5 HC0 HC1 HC2 HC3 HC4 HC5
  generalize w35.alloc (.cells #[.int .i64 2, .int .i64 1, .int .i64 1, .int .i64 1, .int .i64 2, .int .i32 0, .int .i64 1, .int .i64 3, .int .i64 1, .int .i64 1, .int .i64 3, .int .i32 99] 51) = w36 at *
  generalize w35.heap.size = q0 at *
  refine (diffs_true e4 rfl rfl HF.out HS.out (by decide) GH2.out ⟨⟨by decide, by decide⟩, by decide, by decide⟩ Rn0.out (by decide)).mono ?_
  rintro e w37 ⟨rfl, hb⟩
  replace HB := bel_tr HB hb
  replace Hb := Lib.hid (Hb.out.keep hb)
  replace HC := Lib.hid (HC.out.keep hb)
  replace HS := Lib.hid (HS.out.keep hb)
  replace Hd := Lib.hid (Hd.out.keep hb)
  replace GHd := Lib.hid (GHd.out.keep hb)
  replace Ho := Lib.hid (Ho.out.keep hb)
  replace GHo := Lib.hid (GHo.out.keep hb)
  replace H2 := Lib.hid (H2.out.keep hb)
  replace GH2 := Lib.hid (GH2.out.keep hb)
  replace H3 := Lib.hid (H3.out.keep hb)
  replace GH3 := Lib.hid (GH3.out.keep hb)
  replace H4 := Lib.hid (H4.out.keep hb)
  replace GH4 := Lib.hid (GH4.out.keep hb)
  replace Rn0 := Lib.hid (Rn0.out.keep hb)
  clear hb
  clear Rn0 GH2 H2
  have k0 := H3.out.1.1
  have k1 := H3.out.1.2
  have k2 := H3.out.2.1
  have k3 := H3.out.2.2
  obtain ⟨Hb0, Hb1, Hb2, Hb3, Hb4, Hb5⟩ := Hb.out
  have hb := bel_box w37 (.cells #[.int .i64 2, .int .i64 1, .int .i64 1, .int .i64 1, .int .i64 2, .int .i32 0] 51)
  have Rn1 : Hid (RowN (w37.alloc (.cells #[.int .i64 2, .int .i64 1, .int .i64 1, .int .i64 1, .int .i64 2, .int .i32 0] 51)) (some ⟨w37.heap.size, 0, none⟩) [kB]) := RowN.lit w37 [kB] _ _ _ rfl
  replace HB := bel_tr HB hb
  replace Hb := Lib.hid (Hb.out.keep hb)
  replace HC := Lib.hid (HC.out.keep hb)
  replace HS := Lib.hid (HS.out.keep hb)
  replace Hd := Lib.hid (Hd.out.keep hb)
  replace GHd := Lib.hid (GHd.out.keep hb)
  replace Ho := Lib.hid (Ho.out.keep hb)
  replace GHo := Lib.hid (GHo.out.keep hb)
  replace H3 := Lib.hid (H3.out.keep hb)
  replace GH3 := Lib.hid (GH3.out.keep hb)
  replace H4 := Lib.hid (H4.out.keep hb)
  replace GH4 := Lib.hid (GH4.out.keep hb)
  clear hb
  go_wp2_with fail
  clear k0 k1 k2 k3 Hb0 Hb1 Hb2 Hb3 Hb4 Hb5
  generalize w37.alloc (.cells #[.int .i64 2, .int .i64 1, .int .i64 1, .int .i64 1, .int .i64 2, .int .i32 0] 51) = w38 at *
  generalize w37.heap.size = q1 at *
  refine (diffs_true e5 rfl rfl HF.out HS.out (by decide) GH3.out ⟨⟨by decide, by decide⟩, by decide, by decide⟩ Rn1.out (by decide)).mono ?_
  rintro e w39 ⟨rfl, hb⟩
  replace HB := bel_tr HB hb
  replace Hb := Lib.hid (Hb.out.keep hb)
  replace HC := Lib.hid (HC.out.keep hb)
  replace HS := Lib.hid (HS.out.keep hb)
  replace Hd := Lib.hid (Hd.out.keep hb)
  replace GHd := Lib.hid (GHd.out.keep hb)
  replace Ho := Lib.hid (Ho.out.keep hb)
  replace GHo := Lib.hid (GHo.out.keep hb)
  replace H3 := Lib.hid (H3.out.keep hb)
  replace GH3 := Lib.hid (GH3.out.keep hb)
  replace H4 := Lib.hid (H4.out.keep hb)
  replace GH4 := Lib.hid (GH4.out.keep hb)
  replace Rn1 := Lib.hid (Rn1.out.keep hb)
  clear hb
  clear Rn1 GH3 H3
  have k0 := H4.out.1.1
  have k1 := H4.out.1.2
  have k2 := H4.out.2.1
  have k3 := H4.out.2.2
  obtain ⟨Hb0, Hb1, Hb2, Hb3, Hb4, Hb5⟩ := Hb.out
  have hb := bel_box w39 (.cells #[.int .i64 2, .int .i64 1, .int .i64 1, .int .i64 1, .int .i64 2, .int .i32 0] 51)
  have Rn2 : Hid (RowN (w39.alloc (.cells #[.int .i64 2, .int .i64 1, .int .i64 1, .int .i64 1, .int .i64 2, .int .i32 0] 51)) (some ⟨w39.heap.size, 0, none⟩) [kB]) := RowN.lit w39 [kB] _ _ _ rfl
  replace HB := bel_tr HB hb
  replace Hb := Lib.hid (Hb.out.keep hb)
  replace HC := Lib.hid (HC.out.keep hb)
  replace HS := Lib.hid (HS.out.keep hb)
  replace Hd := Lib.hid (Hd.out.keep hb)
  replace GHd := Lib.hid (GHd.out.keep hb)
  replace Ho := Lib.hid (Ho.out.keep hb)
  replace GHo := Lib.hid (GHo.out.keep hb)
  replace H4 := Lib.hid (H4.out.keep hb)
  replace GH4 := Lib.hid (GH4.out.keep hb)
  clear hb
  go_wp2_with fail
  clear k0 k1 k2 k3 Hb0 Hb1 Hb2 Hb3 Hb4 Hb5
  generalize w39.alloc (.cells #[.int .i64 2, .int .i64 1, .int .i64 1, .int .i64 1, .int .i64 2, .int .i32 0] 51) = w40 at *
  generalize w39.heap.size = q2 at *
  refine (diffs_true e6 rfl rfl HF.out HS.out (by decide) GH4.out ⟨⟨by decide, by decide⟩, by decide, by decide⟩ Rn2.out (by decide)).mono ?_
  rintro e w41 ⟨rfl, hb⟩
  replace HB := bel_tr HB hb
  replace Hb := Lib.hid (Hb.out.keep hb)
  replace HC := Lib.hid (HC.out.keep hb)
  replace HS := Lib.hid (HS.out.keep hb)
  replace Hd := Lib.hid (Hd.out.keep hb)
  replace GHd := Lib.hid (GHd.out.keep hb)
  replace Ho := Lib.hid (Ho.out.keep hb)
  replace GHo := Lib.hid (GHo.out.keep hb)
  replace H4 := Lib.hid (H4.out.keep hb)
  replace GH4 := Lib.hid (GH4.out.keep hb)
  replace Rn2 := Lib.hid (Rn2.out.keep hb)
  clear hb
  clear Rn2 GH4 H4
  clear Hb HC HS
  go_wp2_with fail
  refine (dot_law 1 2 _).mono ?_
  rintro e w42 ⟨rfl, hb⟩
  replace HB := bel_tr HB hb
  replace Hd := Lib.hid (Hd.out.keep hb)
  replace GHd := Lib.hid (GHd.out.keep hb)
  replace Ho := Lib.hid (Ho.out.keep hb)
  replace GHo := Lib.hid (GHo.out.keep hb)
  clear hb
  have hb := bel_box w42 (.cells #[.int .i64 1, .int .i64 2] 48)
  have R10 : Hid (RowD (w42.alloc (.cells #[.int .i64 1, .int .i64 2] 48)) (some ⟨w42.heap.size, 0, none⟩) [(1, 2)]) := RowD.lit w42 [(1, 2)] _ _ _ rfl
  replace HB := bel_tr HB hb
  replace Hd := Lib.hid (Hd.out.keep hb)
  replace GHd := Lib.hid (GHd.out.keep hb)
  replace Ho := Lib.hid (Ho.out.keep hb)
  replace GHo := Lib.hid (GHo.out.keep hb)
  clear hb
  have hz : (w42.alloc (.cells #[.int .i64 1, .int .i64 2] 48)).heap.size = w42.heap.size + 1 := by simp
  have Hc := Lib.hid (F.two_new (w42.alloc (.cells #[.int .i64 1, .int .i64 2] 48)) (.slice none 0 0) (.slice (some ⟨w42.heap.size, 0, none⟩) 1 1))
  rw [hz] at Hc
  have hb := bel_box (w42.alloc (.cells #[.int .i64 1, .int .i64 2] 48)) (cbox (.slice none 0 0) (.slice (some ⟨w42.heap.size, 0, none⟩) 1 1))
  replace HB := bel_tr HB hb
  replace Hd := Lib.hid (Hd.out.keep hb)
  replace GHd := Lib.hid (GHd.out.keep hb)
  replace Ho := Lib.hid (Ho.out.keep hb)
  replace GHo := Lib.hid (GHo.out.keep hb)
  replace R10 := Lib.hid (R10.out.keep hb)
  clear hb hz
  go_upto_region 15 with fail
  generalize (w42.alloc (.cells #[.int .i64 1, .int .i64 2] 48)).alloc (cbox (.slice none 0 0) (.slice (some ⟨w42.heap.size, 0, none⟩) 1 1)) = w43 at *
  generalize w42.heap.size + 1 = bHc at *
  generalize w42.heap.size = r10 at *
  have GHc : Hid (Kx w43 (.slice none 0 0) (.slice (some ⟨r10, 0, none⟩) 1 1) kX) := Lib.hid ⟨(SV.nil _), (sv_lit R10.out)⟩
  clear R10
  have hd := (Below.refl w43.heap.size w43).drew
  replace HB := bel_tr HB hd
  replace Hd := Lib.hid (Hd.out.keep hd)
  replace GHd := Lib.hid (GHd.out.keep hd)
  replace Ho := Lib.hid (Ho.out.keep hd)
  replace GHo := Lib.hid (GHo.out.keep hd)
  replace Hc := Lib.hid (Hc.out.keep hd)
  replace GHc := Lib.hid (GHc.out.keep hd)
  clear hd
  have HQ : Hid (K3 bHd bHo bHc (.slice (some ⟨r1, 0, none⟩) 2 2) (.slice (some ⟨r2, 0, none⟩) 1 1) (.slice (some ⟨r3, 0, none⟩) 1 1) (.slice (some ⟨r4, 0, none⟩) 1 1) (.slice (some ⟨r10, 0, none⟩) 1 1) w43.drew) := ⟨Hd.out, Ho.out, Hc.out⟩
  clear Hd Ho Hc HF
  go_wp2_with fail
  refine Sch.wp_region_tn (K3 bHd bHo bHc (.slice (some ⟨r1, 0, none⟩) 2 2) (.slice (some ⟨r2, 0, none⟩) 1 1) (.slice (some ⟨r3, 0, none⟩) 1 1) (.slice (some ⟨r4, 0, none⟩) 1 1) (.slice (some ⟨r10, 0, none⟩) 1 1)) (.one 0 (.two 1 (.one 2 (.one 3 (.val 4 (.val 5 (.one 6 (.val 7 (.val 8 (.val 9 (.one 10 (.one 11 (.val 12 (.val 13 (.one 14 (.val 15 (.val 16 (.val 17 (.val 18 (.val 19 (.one 20 (.val 21 (.val 22 (.val 23 (.val 24 (.val 25 (.val 26 (.val 27 (.val 31 (.one 28 (.one 29 (.val 30 (.val 32 (.one 33 (.val 34 (.val 35 .done)))))))))))))))))))))))))))))))))) 2 (.two 1 (.one 3 (.val 4 (.val 5 (.one 6 (.val 7 (.val 8 (.val 9 (.one 10 (.one 11 (.val 12 (.val 13 (.one 14 (.val 15 (.val 16 (.val 17 (.val 18 (.val 19 (.one 20 (.val 21 (.val 22 (.val 23 (.val 24 (.val 25 (.val 26 (.val 27 (.val 31 (.one 28 (.one 29 (.val 30 (.val 32 (.one 33 (.val 34 (.val 35 .done))))))))))))))))))))))))))))))))) 3 (.one 1 (.val 4 (.val 5 (.one 6 (.val 7 (.val 8 (.val 9 (.one 10 (.one 11 (.val 12 (.val 13 (.one 14 (.val 15 (.val 16 (.val 17 (.val 18 (.val 19 (.one 20 (.val 21 (.val 22 (.val 23 (.val 24 (.val 25 (.val 26 (.val 27 (.val 31 (.one 28 (.one 29 (.val 30 (.val 32 (.one 33 (.val 34 (.val 35 .done)))))))))))))))))))))))))))))))))))) (by kernel_rfl) (by kernel_rfl) HQ.out ?_
  repeat (first
    | (refine Sch.tn_q rfl rfl rfl (fun K hK => ?_); go_big_quiet_op; (first | refine hK _ ?_ | refine ⟨_, fun _ _ => rfl, hK _ ?_⟩); clear hK K)
    | (refine Sch.tn_chk _ _ _ rfl rfl rfl rfl rfl ?_; simp only [Act.put, List.setIfInBounds_toArray, List.set_cons_zero, List.set_cons_succ])
    | (refine Sch.tn_load _ _ _ _ _ rfl rfl rfl rfl (by first | exact K3.d | exact K3.o | exact K3.c) rfl ?_; simp only [Act.put, List.setIfInBounds_toArray, List.set_cons_zero, List.set_cons_succ]))
  generalize w43.drew = wd at *
  refine Sch.tn_e rfl rfl (fun K hK => ?_)
  go_wp2_with fail
  refine (dot_law 1 1 _).mono ?_
  rintro e wa ⟨rfl, hb⟩
  replace HB := bel_tr HB hb
  replace GHd := Lib.hid (GHd.out.keep hb)
  replace GHo := Lib.hid (GHo.out.keep hb)
  replace GHc := Lib.hid (GHc.out.keep hb)
  replace HQ := Lib.hid (HQ.out.keep hb)
  clear hb
  refine hK _ _ HQ.out ?_
  clear hK K
  refine Sch.tn_two ?_ ?_
  · skip
    refine Sch.tn_e rfl rfl (fun K hK => ?_)
    go_wp2_with fail
    have hb := bel_box wa (.cells #[.int .i64 1, .int .i64 1] 48)
    have P1 : Hid (RowD (wa.alloc (.cells #[.int .i64 1, .int .i64 1] 48)) (some ⟨wa.heap.size, 0, none⟩) [(1, 1)]) := RowD.lit wa [(1, 1)] _ _ _ rfl
    replace HB := bel_tr HB hb
    replace GHd := Lib.hid (GHd.out.keep hb)
    replace GHo := Lib.hid (GHo.out.keep hb)
    replace GHc := Lib.hid (GHc.out.keep hb)
    replace HQ := Lib.hid (HQ.out.keep hb)
    clear hb
    refine hK _ _ HQ.out ?_
    clear hK K
    generalize wa.alloc (.cells #[.int .i64 1, .int .i64 1] 48) = wp at *
    generalize wa.heap.size = y1 at *
    refine Sch.tn_e rfl rfl (fun K hK => ?_)
    go_wp2_with fail
    refine (dot_law 1 2 _).mono ?_
    rintro e wb ⟨rfl, hb⟩
    replace HB := bel_tr HB hb
    replace GHd := Lib.hid (GHd.out.keep hb)
    replace GHo := Lib.hid (GHo.out.keep hb)
    replace GHc := Lib.hid (GHc.out.keep hb)
    replace HQ := Lib.hid (HQ.out.keep hb)
    replace P1 := Lib.hid (P1.out.keep hb)
    clear hb
    refine hK _ _ HQ.out ?_
    clear hK K
    refine Sch.tn_e rfl rfl (fun K hK => ?_)
    go_wp2_with fail
    have hb := bel_box wb (.cells #[.int .i64 1, .int .i64 2] 48)
    have P2 : Hid (RowD (wb.alloc (.cells #[.int .i64 1, .int .i64 2] 48)) (some ⟨wb.heap.size, 0, none⟩) [(1, 2)]) := RowD.lit wb [(1, 2)] _ _ _ rfl
    replace HB := bel_tr HB hb
    replace GHd := Lib.hid (GHd.out.keep hb)
    replace GHo := Lib.hid (GHo.out.keep hb)
    replace GHc := Lib.hid (GHc.out.keep hb)
    replace HQ := Lib.hid (HQ.out.keep hb)
    replace P1 := Lib.hid (P1.out.keep hb)
    clear hb
    refine hK _ _ HQ.out ?_
    clear hK K
    generalize wb.alloc (.cells #[.int .i64 1, .int .i64 2] 48) = wq at *
    generalize wb.heap.size = y2 at *
    repeat (first
      | (refine Sch.tn_q rfl rfl rfl (fun K hK => ?_); go_big_quiet_op; (first | refine hK _ ?_ | refine ⟨_, fun _ _ => rfl, hK _ ?_⟩); clear hK K)
      | (refine Sch.tn_chk _ _ _ rfl rfl rfl rfl rfl ?_; simp only [Act.put, List.setIfInBounds_toArray, List.set_cons_zero, List.set_cons_succ])
      | (refine Sch.tn_load _ _ _ _ _ rfl rfl rfl rfl (by first | exact K3.d | exact K3.o | exact K3.c) rfl ?_; simp only [Act.put, List.setIfInBounds_toArray, List.set_cons_zero, List.set_cons_succ]))
    refine Sch.tn_e rfl rfl (fun K hK => ?_)
    go_wp2_with fail
    refine (gvalid_any (([(1, 1)], [(1, 2)]), [], []) _ _ _ _ _ ⟨⟨sv_lit P1.out, sv_lit P2.out⟩, SV.nil _, SV.nil _⟩ ⟨⟨by decide, by decide⟩, by decide, by decide⟩).mono ?_
    rw [e7]
    rintro e wv ⟨rfl, hb⟩
    replace HB := bel_tr HB hb
    replace GHd := Lib.hid (GHd.out.keep hb)
    replace GHo := Lib.hid (GHo.out.keep hb)
    replace GHc := Lib.hid (GHc.out.keep hb)
    replace HQ := Lib.hid (HQ.out.keep hb)
    replace P1 := Lib.hid (P1.out.keep hb)
    replace P2 := Lib.hid (P2.out.keep hb)
    clear hb
    refine hK _ _ HQ.out ?_
    clear hK K
    clear P1 P2
    repeat (first
      | (refine Sch.tn_q rfl rfl rfl (fun K hK => ?_); go_big_quiet_op; (first | refine hK _ ?_ | refine ⟨_, fun _ _ => rfl, hK _ ?_⟩); clear hK K)
      | (refine Sch.tn_chk _ _ _ rfl rfl rfl rfl rfl ?_; simp only [Act.put, List.setIfInBounds_toArray, List.set_cons_zero, List.set_cons_succ])
      | (refine Sch.tn_load _ _ _ _ _ rfl rfl rfl rfl (by first | exact K3.d | exact K3.o | exact K3.c) rfl ?_; simp only [Act.put, List.setIfInBounds_toArray, List.set_cons_zero, List.set_cons_succ]))
    refine Sch.tn_e rfl rfl (fun K hK => ?_)
    go_wp2_with fail
    refine (dot_law 2 1 _).mono ?_
    rintro e we ⟨rfl, hb⟩
    replace HB := bel_tr HB hb
    replace GHd := Lib.hid (GHd.out.keep hb)
    replace GHo := Lib.hid (GHo.out.keep hb)
    replace GHc := Lib.hid (GHc.out.keep hb)
    replace HQ := Lib.hid (HQ.out.keep hb)
    clear hb
    refine hK _ _ HQ.out ?_
    clear hK K
    refine Sch.tn_e rfl rfl (fun K hK => ?_)
    go_wp2_with fail
    have hb := bel_box we (.cells #[.int .i64 2, .int .i64 1] 48)
    have P3 : Hid (RowD (we.alloc (.cells #[.int .i64 2, .int .i64 1] 48)) (some ⟨we.heap.size, 0, none⟩) [(2, 1)]) := RowD.lit we [(2, 1)] _ _ _ rfl
    replace HB := bel_tr HB hb
    replace GHd := Lib.hid (GHd.out.keep hb)
    replace GHo := Lib.hid (GHo.out.keep hb)
    replace GHc := Lib.hid (GHc.out.keep hb)
    replace HQ := Lib.hid (HQ.out.keep hb)
    clear hb
    refine hK _ _ HQ.out ?_
    clear hK K
    generalize we.alloc (.cells #[.int .i64 2, .int .i64 1] 48) = wf at *
    generalize we.heap.size = y3 at *
    repeat (first
      | (refine Sch.tn_q rfl rfl rfl (fun K hK => ?_); go_big_quiet_op; (first | refine hK _ ?_ | refine ⟨_, fun _ _ => rfl, hK _ ?_⟩); clear hK K)
      | (refine Sch.tn_chk _ _ _ rfl rfl rfl rfl rfl ?_; simp only [Act.put, List.setIfInBounds_toArray, List.set_cons_zero, List.set_cons_succ])
      | (refine Sch.tn_load _ _ _ _ _ rfl rfl rfl rfl (by first | exact K3.d | exact K3.o | exact K3.c) rfl ?_; simp only [Act.put, List.setIfInBounds_toArray, List.set_cons_zero, List.set_cons_succ]))
    refine Sch.tn_e rfl rfl (fun K hK => ?_)
    go_wp2_with fail
    refine (gvalid_any (kO, ([(2, 1)], [])) _ _ _ _ _ ⟨GHo.out, sv_lit P3.out, SV.nil _⟩ ⟨⟨by decide, by decide⟩, by decide, by decide⟩).mono ?_
    rw [e8]
    rintro e wg ⟨rfl, hb⟩
    replace HB := bel_tr HB hb
    replace GHd := Lib.hid (GHd.out.keep hb)
    replace GHo := Lib.hid (GHo.out.keep hb)
    replace GHc := Lib.hid (GHc.out.keep hb)
    replace HQ := Lib.hid (HQ.out.keep hb)
    replace P3 := Lib.hid (P3.out.keep hb)
    clear hb
    refine hK _ _ HQ.out ?_
    clear hK K
    clear P3
    repeat (first
      | (refine Sch.tn_q rfl rfl rfl (fun K hK => ?_); go_big_quiet_op; (first | refine hK _ ?_ | refine ⟨_, fun _ _ => rfl, hK _ ?_⟩); clear hK K)
      | (refine Sch.tn_chk _ _ _ rfl rfl rfl rfl rfl ?_; simp only [Act.put, List.setIfInBounds_toArray, List.set_cons_zero, List.set_cons_succ])
      | (refine Sch.tn_load _ _ _ _ _ rfl rfl rfl rfl (by first | exact K3.d | exact K3.o | exact K3.c) rfl ?_; simp only [Act.put, List.setIfInBounds_toArray, List.set_cons_zero, List.set_cons_succ]))
    refine Sch.tn_e rfl rfl (fun K hK => ?_)
    go_wp2_with fail
    refine (withins_true e9 (Gx.nil _) ⟨⟨by decide, by decide⟩, by decide, by decide⟩ GHd.out ⟨⟨by decide, by decide⟩, by decide, by decide⟩).mono ?_
    rintro e wh ⟨rfl, hb⟩
    replace HB := bel_tr HB hb
    replace GHd := Lib.hid (GHd.out.keep hb)
    replace GHo := Lib.hid (GHo.out.keep hb)
    replace GHc := Lib.hid (GHc.out.keep hb)
    replace HQ := Lib.hid (HQ.out.keep hb)
    clear hb
    refine hK _ _ HQ.out ?_
    clear hK K
    repeat (first
      | (refine Sch.tn_q rfl rfl rfl (fun K hK => ?_); go_big_quiet_op; (first | refine hK _ ?_ | refine ⟨_, fun _ _ => rfl, hK _ ?_⟩); clear hK K)
      | (refine Sch.tn_chk _ _ _ rfl rfl rfl rfl rfl ?_; simp only [Act.put, List.setIfInBounds_toArray, List.set_cons_zero, List.set_cons_succ])
      | (refine Sch.tn_load _ _ _ _ _ rfl rfl rfl rfl (by first | exact K3.d | exact K3.o | exact K3.c) rfl ?_; simp only [Act.put, List.setIfInBounds_toArray, List.set_cons_zero, List.set_cons_succ]))
    refine Sch.tn_e rfl rfl (fun K hK => ?_)
    go_wp2_with fail
    refine (dot_law 1 2 _).mono ?_
    rintro e wi ⟨rfl, hb⟩
    replace HB := bel_tr HB hb
    replace GHd := Lib.hid (GHd.out.keep hb)
    replace GHo := Lib.hid (GHo.out.keep hb)
    replace GHc := Lib.hid (GHc.out.keep hb)
    replace HQ := Lib.hid (HQ.out.keep hb)
    clear hb
    refine hK _ _ HQ.out ?_
    clear hK K
    refine Sch.tn_e rfl rfl (fun K hK => ?_)
    go_wp2_with fail
    have hb := bel_box wi (.cells #[.int .i64 1, .int .i64 2] 48)
    have P4 : Hid (RowD (wi.alloc (.cells #[.int .i64 1, .int .i64 2] 48)) (some ⟨wi.heap.size, 0, none⟩) [(1, 2)]) := RowD.lit wi [(1, 2)] _ _ _ rfl
    replace HB := bel_tr HB hb
    replace GHd := Lib.hid (GHd.out.keep hb)
    replace GHo := Lib.hid (GHo.out.keep hb)
    replace GHc := Lib.hid (GHc.out.keep hb)
    replace HQ := Lib.hid (HQ.out.keep hb)
    clear hb
    refine hK _ _ HQ.out ?_
    clear hK K
    generalize wi.alloc (.cells #[.int .i64 1, .int .i64 2] 48) = wj at *
    generalize wi.heap.size = y4 at *
    repeat (first
      | (refine Sch.tn_q rfl rfl rfl (fun K hK => ?_); go_big_quiet_op; (first | refine hK _ ?_ | refine ⟨_, fun _ _ => rfl, hK _ ?_⟩); clear hK K)
      | (refine Sch.tn_chk _ _ _ rfl rfl rfl rfl rfl ?_; simp only [Act.put, List.setIfInBounds_toArray, List.set_cons_zero, List.set_cons_succ])
      | (refine Sch.tn_load _ _ _ _ _ rfl rfl rfl rfl (by first | exact K3.d | exact K3.o | exact K3.c) rfl ?_; simp only [Act.put, List.setIfInBounds_toArray, List.set_cons_zero, List.set_cons_succ]))
    refine Sch.tn_e rfl rfl (fun K hK => ?_)
    go_wp2_with fail
    refine (merges_true e10 ⟨GHo.out, Kx.nil _⟩ ⟨⟨by decide, by decide⟩, by decide, by decide⟩ ⟨GHc.out, GHc.out⟩ ⟨⟨by decide, by decide⟩, by decide, by decide⟩ ⟨⟨sv_lit P4.out, SV.nil _⟩, GHc.out⟩ ⟨⟨by decide, by decide⟩, by decide, by decide⟩).mono ?_
    rintro e wk ⟨rfl, hb⟩
    replace HB := bel_tr HB hb
    replace GHd := Lib.hid (GHd.out.keep hb)
    replace GHo := Lib.hid (GHo.out.keep hb)
    replace GHc := Lib.hid (GHc.out.keep hb)
    replace HQ := Lib.hid (HQ.out.keep hb)
    replace P4 := Lib.hid (P4.out.keep hb)
    clear hb
    refine hK _ _ HQ.out ?_
    clear hK K
    repeat (first
      | (refine Sch.tn_q rfl rfl rfl (fun K hK => ?_); go_big_quiet_op; (first | refine hK _ ?_ | refine ⟨_, fun _ _ => rfl, hK _ ?_⟩); clear hK K)
      | (refine Sch.tn_chk _ _ _ rfl rfl rfl rfl rfl ?_; simp only [Act.put, List.setIfInBounds_toArray, List.set_cons_zero, List.set_cons_succ])
      | (refine Sch.tn_load _ _ _ _ _ rfl rfl rfl rfl (by first | exact K3.d | exact K3.o | exact K3.c) rfl ?_; simp only [Act.put, List.setIfInBounds_toArray, List.set_cons_zero, List.set_cons_succ]))
    refine Sch.tn_n ?_
    go_wp2_with fail
    go_ret
    exact ⟨rfl, HB.out⟩
  · skip
    refine Sch.tn_e rfl rfl (fun K hK => ?_)
    go_wp2_with fail
    refine (dot_law 1 2 _).mono ?_
    rintro e wb ⟨rfl, hb⟩
    replace HB := bel_tr HB hb
    replace GHd := Lib.hid (GHd.out.keep hb)
    replace GHo := Lib.hid (GHo.out.keep hb)
    replace GHc := Lib.hid (GHc.out.keep hb)
    replace HQ := Lib.hid (HQ.out.keep hb)
    clear hb
    refine hK _ _ HQ.out ?_
    clear hK K
    refine Sch.tn_two ?_ ?_
    · skip
      refine Sch.tn_e rfl rfl (fun K hK => ?_)
      go_wp2_with fail
      have hb := bel_box wb (.cells #[.int .i64 1, .int .i64 1] 48)
      have P1 : Hid (RowD (wb.alloc (.cells #[.int .i64 1, .int .i64 1] 48)) (some ⟨wb.heap.size, 0, none⟩) [(1, 1)]) := RowD.lit wb [(1, 1)] _ _ _ rfl
      replace HB := bel_tr HB hb
      replace GHd := Lib.hid (GHd.out.keep hb)
      replace GHo := Lib.hid (GHo.out.keep hb)
      replace GHc := Lib.hid (GHc.out.keep hb)
      replace HQ := Lib.hid (HQ.out.keep hb)
      clear hb
      refine hK _ _ HQ.out ?_
      clear hK K
      generalize wb.alloc (.cells #[.int .i64 1, .int .i64 1] 48) = wp at *
      generalize wb.heap.size = y1 at *
      refine Sch.tn_e rfl rfl (fun K hK => ?_)
      go_wp2_with fail
      have hb := bel_box wp (.cells #[.int .i64 1, .int .i64 2] 48)
      have P2 : Hid (RowD (wp.alloc (.cells #[.int .i64 1, .int .i64 2] 48)) (some ⟨wp.heap.size, 0, none⟩) [(1, 2)]) := RowD.lit wp [(1, 2)] _ _ _ rfl
      replace HB := bel_tr HB hb
      replace GHd := Lib.hid (GHd.out.keep hb)
      replace GHo := Lib.hid (GHo.out.keep hb)
      replace GHc := Lib.hid (GHc.out.keep hb)
      replace HQ := Lib.hid (HQ.out.keep hb)
      replace P1 := Lib.hid (P1.out.keep hb)
      clear hb
      refine hK _ _ HQ.out ?_
      clear hK K
      generalize wp.alloc (.cells #[.int .i64 1, .int .i64 2] 48) = wq at *
      generalize wp.heap.size = y2 at *
      repeat (first
        | (refine Sch.tn_q rfl rfl rfl (fun K hK => ?_); go_big_quiet_op; (first | refine hK _ ?_ | refine ⟨_, fun _ _ => rfl, hK _ ?_⟩); clear hK K)
        | (refine Sch.tn_chk _ _ _ rfl rfl rfl rfl rfl ?_; simp only [Act.put, List.setIfInBounds_toArray, List.set_cons_zero, List.set_cons_succ])
        | (refine Sch.tn_load _ _ _ _ _ rfl rfl rfl rfl (by first | exact K3.d | exact K3.o | exact K3.c) rfl ?_; simp only [Act.put, List.setIfInBounds_toArray, List.set_cons_zero, List.set_cons_succ]))
      refine Sch.tn_e rfl rfl (fun K hK => ?_)
      go_wp2_with fail
      refine (gvalid_any (([(1, 1)], [(1, 2)]), [], []) _ _ _ _ _ ⟨⟨sv_lit P1.out, sv_lit P2.out⟩, SV.nil _, SV.nil _⟩ ⟨⟨by decide, by decide⟩, by decide, by decide⟩).mono ?_
      rw [e7]
      rintro e wv ⟨rfl, hb⟩
      replace HB := bel_tr HB hb
      replace GHd := Lib.hid (GHd.out.keep hb)
      replace GHo := Lib.hid (GHo.out.keep hb)
      replace GHc := Lib.hid (GHc.out.keep hb)
      replace HQ := Lib.hid (HQ.out.keep hb)
      replace P1 := Lib.hid (P1.out.keep hb)
      replace P2 := Lib.hid (P2.out.keep hb)
      clear hb
      refine hK _ _ HQ.out ?_
      clear hK K
      clear P1 P2
      repeat (first
        | (refine Sch.tn_q rfl rfl rfl (fun K hK => ?_); go_big_quiet_op; (first | refine hK _ ?_ | refine ⟨_, fun _ _ => rfl, hK _ ?_⟩); clear hK K)
        | (refine Sch.tn_chk _ _ _ rfl rfl rfl rfl rfl ?_; simp only [Act.put, List.setIfInBounds_toArray, List.set_cons_zero, List.set_cons_succ])
        | (refine Sch.tn_load _ _ _ _ _ rfl rfl rfl rfl (by first | exact K3.d | exact K3.o | exact K3.c) rfl ?_; simp only [Act.put, List.setIfInBounds_toArray, List.set_cons_zero, List.set_cons_succ]))
      refine Sch.tn_e rfl rfl (fun K hK => ?_)
      go_wp2_with fail
      refine (dot_law 2 1 _).mono ?_
      rintro e we ⟨rfl, hb⟩
      replace HB := bel_tr HB hb
      replace GHd := Lib.hid (GHd.out.keep hb)
      replace GHo := Lib.hid (GHo.out.keep hb)
      replace GHc := Lib.hid (GHc.out.keep hb)
      replace HQ := Lib.hid (HQ.out.keep hb)
      clear hb
      refine hK _ _ HQ.out ?_
      clear hK K
      refine Sch.tn_e rfl rfl (fun K hK => ?_)
      go_wp2_with fail
      have hb := bel_box we (.cells #[.int .i64 2, .int .i64 1] 48)
      have P3 : Hid (RowD (we.alloc (.cells #[.int .i64 2, .int .i64 1] 48)) (some ⟨we.heap.size, 0, none⟩) [(2, 1)]) := RowD.lit we [(2, 1)] _ _ _ rfl
      replace HB := bel_tr HB hb
      replace GHd := Lib.hid (GHd.out.keep hb)
      replace GHo := Lib.hid (GHo.out.keep hb)
      replace GHc := Lib.hid (GHc.out.keep hb)
      replace HQ := Lib.hid (HQ.out.keep hb)
      clear hb
      refine hK _ _ HQ.out ?_
      clear hK K
      generalize we.alloc (.cells #[.int .i64 2, .int .i64 1] 48) = wf at *
      generalize we.heap.size = y3 at *
      repeat (first
        | (refine Sch.tn_q rfl rfl rfl (fun K hK => ?_); go_big_quiet_op; (first | refine hK _ ?_ | refine ⟨_, fun _ _ => rfl, hK _ ?_⟩); clear hK K)
        | (refine Sch.tn_chk _ _ _ rfl rfl rfl rfl rfl ?_; simp only [Act.put, List.setIfInBounds_toArray, List.set_cons_zero, List.set_cons_succ])
        | (refine Sch.tn_load _ _ _ _ _ rfl rfl rfl rfl (by first | exact K3.d | exact K3.o | exact K3.c) rfl ?_; simp only [Act.put, List.setIfInBounds_toArray, List.set_cons_zero, List.set_cons_succ]))
      refine Sch.tn_e rfl rfl (fun K hK => ?_)
      go_wp2_with fail
      refine (gvalid_any (kO, ([(2, 1)], [])) _ _ _ _ _ ⟨GHo.out, sv_lit P3.out, SV.nil _⟩ ⟨⟨by decide, by decide⟩, by decide, by decide⟩).mono ?_
      rw [e8]
      rintro e wg ⟨rfl, hb⟩
      replace HB := bel_tr HB hb
      replace GHd := Lib.hid (GHd.out.keep hb)
      replace GHo := Lib.hid (GHo.out.keep hb)
      replace GHc := Lib.hid (GHc.out.keep hb)
      replace HQ := Lib.hid (HQ.out.keep hb)
      replace P3 := Lib.hid (P3.out.keep hb)
      clear hb
      refine hK _ _ HQ.out ?_
      clear hK K
      clear P3
      repeat (first
        | (refine Sch.tn_q rfl rfl rfl (fun K hK => ?_); go_big_quiet_op; (first | refine hK _ ?_ | refine ⟨_, fun _ _ => rfl, hK _ ?_⟩); clear hK K)
        | (refine Sch.tn_chk _ _ _ rfl rfl rfl rfl rfl ?_; simp only [Act.put, List.setIfInBounds_toArray, List.set_cons_zero, List.set_cons_succ])
        | (refine Sch.tn_load _ _ _ _ _ rfl rfl rfl rfl (by first | exact K3.d | exact K3.o | exact K3.c) rfl ?_; simp only [Act.put, List.setIfInBounds_toArray, List.set_cons_zero, List.set_cons_succ]))
      refine Sch.tn_e rfl rfl (fun K hK => ?_)
      go_wp2_with fail
      refine (withins_true e9 (Gx.nil _) ⟨⟨by decide, by decide⟩, by decide, by decide⟩ GHd.out ⟨⟨by decide, by decide⟩, by decide, by decide⟩).mono ?_
      rintro e wh ⟨rfl, hb⟩
      replace HB := bel_tr HB hb
      replace GHd := Lib.hid (GHd.out.keep hb)
      replace GHo := Lib.hid (GHo.out.keep hb)
      replace GHc := Lib.hid (GHc.out.keep hb)
      replace HQ := Lib.hid (HQ.out.keep hb)
      clear hb
      refine hK _ _ HQ.out ?_
      clear hK K
      repeat (first
        | (refine Sch.tn_q rfl rfl rfl (fun K hK => ?_); go_big_quiet_op; (first | refine hK _ ?_ | refine ⟨_, fun _ _ => rfl, hK _ ?_⟩); clear hK K)
        | (refine Sch.tn_chk _ _ _ rfl rfl rfl rfl rfl ?_; simp only [Act.put, List.setIfInBounds_toArray, List.set_cons_zero, List.set_cons_succ])
        | (refine Sch.tn_load _ _ _ _ _ rfl rfl rfl rfl (by first | exact K3.d | exact K3.o | exact K3.c) rfl ?_; simp only [Act.put, List.setIfInBounds_toArray, List.set_cons_zero, List.set_cons_succ]))
      refine Sch.tn_e rfl rfl (fun K hK => ?_)
      go_wp2_with fail
      refine (dot_law 1 2 _).mono ?_
      rintro e wi ⟨rfl, hb⟩
      replace HB := bel_tr HB hb
      replace GHd := Lib.hid (GHd.out.keep hb)
      replace GHo := Lib.hid (GHo.out.keep hb)
      replace GHc := Lib.hid (GHc.out.keep hb)
      replace HQ := Lib.hid (HQ.out.keep hb)
      clear hb
      refine hK _ _ HQ.out ?_
      clear hK K
      refine Sch.tn_e rfl rfl (fun K hK => ?_)
      go_wp2_with fail
      have hb := bel_box wi (.cells #[.int .i64 1, .int .i64 2] 48)
      have P4 : Hid (RowD (wi.alloc (.cells #[.int .i64 1, .int .i64 2] 48)) (some ⟨wi.heap.size, 0, none⟩) [(1, 2)]) := RowD.lit wi [(1, 2)] _ _ _ rfl
      replace HB := bel_tr HB hb
      replace GHd := Lib.hid (GHd.out.keep hb)
      replace GHo := Lib.hid (GHo.out.keep hb)
      replace GHc := Lib.hid (GHc.out.keep hb)
      replace HQ := Lib.hid (HQ.out.keep hb)
      clear hb
      refine hK _ _ HQ.out ?_
      clear hK K
      generalize wi.alloc (.cells #[.int .i64 1, .int .i64 2] 48) = wj at *
      generalize wi.heap.size = y4 at *
      repeat (first
        | (refine Sch.tn_q rfl rfl rfl (fun K hK => ?_); go_big_quiet_op; (first | refine hK _ ?_ | refine ⟨_, fun _ _ => rfl, hK _ ?_⟩); clear hK K)
        | (refine Sch.tn_chk _ _ _ rfl rfl rfl rfl rfl ?_; simp only [Act.put, List.setIfInBounds_toArray, List.set_cons_zero, List.set_cons_succ])
        | (refine Sch.tn_load _ _ _ _ _ rfl rfl rfl rfl (by first | exact K3.d | exact K3.o | exact K3.c) rfl ?_; simp only [Act.put, List.setIfInBounds_toArray, List.set_cons_zero, List.set_cons_succ]))
      refine Sch.tn_e rfl rfl (fun K hK => ?_)
      go_wp2_with fail
      refine (merges_true e10 ⟨GHo.out, Kx.nil _⟩ ⟨⟨by decide, by decide⟩, by decide, by decide⟩ ⟨GHc.out, GHc.out⟩ ⟨⟨by decide, by decide⟩, by decide, by decide⟩ ⟨⟨sv_lit P4.out, SV.nil _⟩, GHc.out⟩ ⟨⟨by decide, by decide⟩, by decide, by decide⟩).mono ?_
      rintro e wk ⟨rfl, hb⟩
      replace HB := bel_tr HB hb
      replace GHd := Lib.hid (GHd.out.keep hb)
      replace GHo := Lib.hid (GHo.out.keep hb)
      replace GHc := Lib.hid (GHc.out.keep hb)
      replace HQ := Lib.hid (HQ.out.keep hb)
      replace P4 := Lib.hid (P4.out.keep hb)
      clear hb
      refine hK _ _ HQ.out ?_
      clear hK K
      repeat (first
        | (refine Sch.tn_q rfl rfl rfl (fun K hK => ?_); go_big_quiet_op; (first | refine hK _ ?_ | refine ⟨_, fun _ _ => rfl, hK _ ?_⟩); clear hK K)
        | (refine Sch.tn_chk _ _ _ rfl rfl rfl rfl rfl ?_; simp only [Act.put, List.setIfInBounds_toArray, List.set_cons_zero, List.set_cons_succ])
        | (refine Sch.tn_load _ _ _ _ _ rfl rfl rfl rfl (by first | exact K3.d | exact K3.o | exact K3.c) rfl ?_; simp only [Act.put, List.setIfInBounds_toArray, List.set_cons_zero, List.set_cons_succ]))
      refine Sch.tn_n ?_
      go_wp2_with fail
      go_ret
      exact ⟨rfl, HB.out⟩
    · skip
      refine Sch.tn_e rfl rfl (fun K hK => ?_)
      go_wp2_with fail
      have hb := bel_box wb (.cells #[.int .i64 1, .int .i64 2] 48)
      have P2 : Hid (RowD (wb.alloc (.cells #[.int .i64 1, .int .i64 2] 48)) (some ⟨wb.heap.size, 0, none⟩) [(1, 2)]) := RowD.lit wb [(1, 2)] _ _ _ rfl
      replace HB := bel_tr HB hb
      replace GHd := Lib.hid (GHd.out.keep hb)
      replace GHo := Lib.hid (GHo.out.keep hb)
      replace GHc := Lib.hid (GHc.out.keep hb)
      replace HQ := Lib.hid (HQ.out.keep hb)
      clear hb
      refine hK _ _ HQ.out ?_
      clear hK K
      generalize wb.alloc (.cells #[.int .i64 1, .int .i64 2] 48) = wq at *
      generalize wb.heap.size = y2 at *
      refine Sch.tn_e rfl rfl (fun K hK => ?_)
      go_wp2_with fail
      have hb := bel_box wq (.cells #[.int .i64 1, .int .i64 1] 48)
      have P1 : Hid (RowD (wq.alloc (.cells #[.int .i64 1, .int .i64 1] 48)) (some ⟨wq.heap.size, 0, none⟩) [(1, 1)]) := RowD.lit wq [(1, 1)] _ _ _ rfl
      replace HB := bel_tr HB hb
      replace GHd := Lib.hid (GHd.out.keep hb)
      replace GHo := Lib.hid (GHo.out.keep hb)
      replace GHc := Lib.hid (GHc.out.keep hb)
      replace HQ := Lib.hid (HQ.out.keep hb)
      replace P2 := Lib.hid (P2.out.keep hb)
      clear hb
      refine hK _ _ HQ.out ?_
      clear hK K
      generalize wq.alloc (.cells #[.int .i64 1, .int .i64 1] 48) = wp at *
      generalize wq.heap.size = y1 at *
      repeat (first
        | (refine Sch.tn_q rfl rfl rfl (fun K hK => ?_); go_big_quiet_op; (first | refine hK _ ?_ | refine ⟨_, fun _ _ => rfl, hK _ ?_⟩); clear hK K)
        | (refine Sch.tn_chk _ _ _ rfl rfl rfl rfl rfl ?_; simp only [Act.put, List.setIfInBounds_toArray, List.set_cons_zero, List.set_cons_succ])
        | (refine Sch.tn_load _ _ _ _ _ rfl rfl rfl rfl (by first | exact K3.d | exact K3.o | exact K3.c) rfl ?_; simp only [Act.put, List.setIfInBounds_toArray, List.set_cons_zero, List.set_cons_succ]))
      refine Sch.tn_e rfl rfl (fun K hK => ?_)
      go_wp2_with fail
      refine (gvalid_any (([(1, 1)], [(1, 2)]), [], []) _ _ _ _ _ ⟨⟨sv_lit P1.out, sv_lit P2.out⟩, SV.nil _, SV.nil _⟩ ⟨⟨by decide, by decide⟩, by decide, by decide⟩).mono ?_
      rw [e7]
      rintro e wv ⟨rfl, hb⟩
      replace HB := bel_tr HB hb
      replace GHd := Lib.hid (GHd.out.keep hb)
      replace GHo := Lib.hid (GHo.out.keep hb)
      replace GHc := Lib.hid (GHc.out.keep hb)
      replace HQ := Lib.hid (HQ.out.keep hb)
      replace P2 := Lib.hid (P2.out.keep hb)
      replace P1 := Lib.hid (P1.out.keep hb)
      clear hb
      refine hK _ _ HQ.out ?_
      clear hK K
      clear P1 P2
      repeat (first
        | (refine Sch.tn_q rfl rfl rfl (fun K hK => ?_); go_big_quiet_op; (first | refine hK _ ?_ | refine ⟨_, fun _ _ => rfl, hK _ ?_⟩); clear hK K)
        | (refine Sch.tn_chk _ _ _ rfl rfl rfl rfl rfl ?_; simp only [Act.put, List.setIfInBounds_toArray, List.set_cons_zero, List.set_cons_succ])
        | (refine Sch.tn_load _ _ _ _ _ rfl rfl rfl rfl (by first | exact K3.d | exact K3.o | exact K3.c) rfl ?_; simp only [Act.put, List.setIfInBounds_toArray, List.set_cons_zero, List.set_cons_succ]))
      refine Sch.tn_e rfl rfl (fun K hK => ?_)
      go_wp2_with fail
      refine (dot_law 2 1 _).mono ?_
      rintro e we ⟨rfl, hb⟩
      replace HB := bel_tr HB hb
      replace GHd := Lib.hid (GHd.out.keep hb)
      replace GHo := Lib.hid (GHo.out.keep hb)
      replace GHc := Lib.hid (GHc.out.keep hb)
      replace HQ := Lib.hid (HQ.out.keep hb)
      clear hb
      refine hK _ _ HQ.out ?_
      clear hK K
      refine Sch.tn_e rfl rfl (fun K hK => ?_)
      go_wp2_with fail
      have hb := bel_box we (.cells #[.int .i64 2, .int .i64 1] 48)
      have P3 : Hid (RowD (we.alloc (.cells #[.int .i64 2, .int .i64 1] 48)) (some ⟨we.heap.size, 0, none⟩) [(2, 1)]) := RowD.lit we [(2, 1)] _ _ _ rfl
      replace HB := bel_tr HB hb
      replace GHd := Lib.hid (GHd.out.keep hb)
      replace GHo := Lib.hid (GHo.out.keep hb)
      replace GHc := Lib.hid (GHc.out.keep hb)
      replace HQ := Lib.hid (HQ.out.keep hb)
      clear hb
      refine hK _ _ HQ.out ?_
      clear hK K
      generalize we.alloc (.cells #[.int .i64 2, .int .i64 1] 48) = wf at *
      generalize we.heap.size = y3 at *
      repeat (first
        | (refine Sch.tn_q rfl rfl rfl (fun K hK => ?_); go_big_quiet_op; (first | refine hK _ ?_ | refine ⟨_, fun _ _ => rfl, hK _ ?_⟩); clear hK K)
        | (refine Sch.tn_chk _ _ _ rfl rfl rfl rfl rfl ?_; simp only [Act.put, List.setIfInBounds_toArray, List.set_cons_zero, List.set_cons_succ])
        | (refine Sch.tn_load _ _ _ _ _ rfl rfl rfl rfl (by first | exact K3.d | exact K3.o | exact K3.c) rfl ?_; simp only [Act.put, List.setIfInBounds_toArray, List.set_cons_zero, List.set_cons_succ]))
      refine Sch.tn_e rfl rfl (fun K hK => ?_)
      go_wp2_with fail
      refine (gvalid_any (kO, ([(2, 1)], [])) _ _ _ _ _ ⟨GHo.out, sv_lit P3.out, SV.nil _⟩ ⟨⟨by decide, by decide⟩, by decide, by decide⟩).mono ?_
      rw [e8]
      rintro e wg ⟨rfl, hb⟩
      replace HB := bel_tr HB hb
      replace GHd := Lib.hid (GHd.out.keep hb)
      replace GHo := Lib.hid (GHo.out.keep hb)
      replace GHc := Lib.hid (GHc.out.keep hb)
      replace HQ := Lib.hid (HQ.out.keep hb)
      replace P3 := Lib.hid (P3.out.keep hb)
      clear hb
      refine hK _ _ HQ.out ?_
      clear hK K
      clear P3
      repeat (first
        | (refine Sch.tn_q rfl rfl rfl (fun K hK => ?_); go_big_quiet_op; (first | refine hK _ ?_ | refine ⟨_, fun _ _ => rfl, hK _ ?_⟩); clear hK K)
        | (refine Sch.tn_chk _ _ _ rfl rfl rfl rfl rfl ?_; simp only [Act.put, List.setIfInBounds_toArray, List.set_cons_zero, List.set_cons_succ])
        | (refine Sch.tn_load _ _ _ _ _ rfl rfl rfl rfl (by first | exact K3.d | exact K3.o | exact K3.c) rfl ?_; simp only [Act.put, List.setIfInBounds_toArray, List.set_cons_zero, List.set_cons_succ]))
      refine Sch.tn_e rfl rfl (fun K hK => ?_)
      go_wp2_with fail
      refine (withins_true e9 (Gx.nil _) ⟨⟨by decide, by decide⟩, by decide, by decide⟩ GHd.out ⟨⟨by decide, by decide⟩, by decide, by decide⟩).mono ?_
      rintro e wh ⟨rfl, hb⟩
      replace HB := bel_tr HB hb
      replace GHd := Lib.hid (GHd.out.keep hb)
      replace GHo := Lib.hid (GHo.out.keep hb)
      replace GHc := Lib.hid (GHc.out.keep hb)
      replace HQ := Lib.hid (HQ.out.keep hb)
      clear hb
      refine hK _ _ HQ.out ?_
      clear hK K
      repeat (first
        | (refine Sch.tn_q rfl rfl rfl (fun K hK => ?_); go_big_quiet_op; (first | refine hK _ ?_ | refine ⟨_, fun _ _ => rfl, hK _ ?_⟩); clear hK K)
        | (refine Sch.tn_chk _ _ _ rfl rfl rfl rfl rfl ?_; simp only [Act.put, List.setIfInBounds_toArray, List.set_cons_zero, List.set_cons_succ])
        | (refine Sch.tn_load _ _ _ _ _ rfl rfl rfl rfl (by first | exact K3.d | exact K3.o | exact K3.c) rfl ?_; simp only [Act.put, List.setIfInBounds_toArray, List.set_cons_zero, List.set_cons_succ]))
      refine Sch.tn_e rfl rfl (fun K hK => ?_)
      go_wp2_with fail
      refine (dot_law 1 2 _).mono ?_
      rintro e wi ⟨rfl, hb⟩
      replace HB := bel_tr HB hb
      replace GHd := Lib.hid (GHd.out.keep hb)
      replace GHo := Lib.hid (GHo.out.keep hb)
      replace GHc := Lib.hid (GHc.out.keep hb)
      replace HQ := Lib.hid (HQ.out.keep hb)
      clear hb
      refine hK _ _ HQ.out ?_
      clear hK K
      refine Sch.tn_e rfl rfl (fun K hK => ?_)
      go_wp2_with fail
      have hb := bel_box wi (.cells #[.int .i64 1, .int .i64 2] 48)
      have P4 : Hid (RowD (wi.alloc (.cells #[.int .i64 1, .int .i64 2] 48)) (some ⟨wi.heap.size, 0, none⟩) [(1, 2)]) := RowD.lit wi [(1, 2)] _ _ _ rfl
      replace HB := bel_tr HB hb
      replace GHd := Lib.hid (GHd.out.keep hb)
      replace GHo := Lib.hid (GHo.out.keep hb)
      replace GHc := Lib.hid (GHc.out.keep hb)
      replace HQ := Lib.hid (HQ.out.keep hb)
      clear hb
      refine hK _ _ HQ.out ?_
      clear hK K
      generalize wi.alloc (.cells #[.int .i64 1, .int .i64 2] 48) = wj at *
      generalize wi.heap.size = y4 at *
      repeat (first
        | (refine Sch.tn_q rfl rfl rfl (fun K hK => ?_); go_big_quiet_op; (first | refine hK _ ?_ | refine ⟨_, fun _ _ => rfl, hK _ ?_⟩); clear hK K)
        | (refine Sch.tn_chk _ _ _ rfl rfl rfl rfl rfl ?_; simp only [Act.put, List.setIfInBounds_toArray, List.set_cons_zero, List.set_cons_succ])
        | (refine Sch.tn_load _ _ _ _ _ rfl rfl rfl rfl (by first | exact K3.d | exact K3.o | exact K3.c) rfl ?_; simp only [Act.put, List.setIfInBounds_toArray, List.set_cons_zero, List.set_cons_succ]))
      refine Sch.tn_e rfl rfl (fun K hK => ?_)
      go_wp2_with fail
      refine (merges_true e10 ⟨GHo.out, Kx.nil _⟩ ⟨⟨by decide, by decide⟩, by decide, by decide⟩ ⟨GHc.out, GHc.out⟩ ⟨⟨by decide, by decide⟩, by decide, by decide⟩ ⟨⟨sv_lit P4.out, SV.nil _⟩, GHc.out⟩ ⟨⟨by decide, by decide⟩, by decide, by decide⟩).mono ?_
      rintro e wk ⟨rfl, hb⟩
      replace HB := bel_tr HB hb
      replace GHd := Lib.hid (GHd.out.keep hb)
      replace GHo := Lib.hid (GHo.out.keep hb)
      replace GHc := Lib.hid (GHc.out.keep hb)
      replace HQ := Lib.hid (HQ.out.keep hb)
      replace P4 := Lib.hid (P4.out.keep hb)
      clear hb
      refine hK _ _ HQ.out ?_
      clear hK K
      repeat (first
        | (refine Sch.tn_q rfl rfl rfl (fun K hK => ?_); go_big_quiet_op; (first | refine hK _ ?_ | refine ⟨_, fun _ _ => rfl, hK _ ?_⟩); clear hK K)
        | (refine Sch.tn_chk _ _ _ rfl rfl rfl rfl rfl ?_; simp only [Act.put, List.setIfInBounds_toArray, List.set_cons_zero, List.set_cons_succ])
        | (refine Sch.tn_load _ _ _ _ _ rfl rfl rfl rfl (by first | exact K3.d | exact K3.o | exact K3.c) rfl ?_; simp only [Act.put, List.setIfInBounds_toArray, List.set_cons_zero, List.set_cons_succ]))
      refine Sch.tn_n ?_
      go_wp2_with fail
      go_ret
      exact ⟨rfl, HB.out⟩
end Go.Proofs.YtgopkffgljiblaaGreat.Dg
