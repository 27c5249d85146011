/-
  The law's texts and parses.
-/
import Derived.Test.YtjdhdnlcaonnkaaDoorDParseR
namespace Go.Proofs.YtjdhdnlcaonnkaaDoor.D
set_option linter.unusedVariables false
open Go.RowKit V Go.Sort

set_option maxRecDepth 100000 in
set_option maxHeartbeats 1000000 in
theorem texts_any (d : Dt) (s : List UInt8) (q : Int) (w : World) (hL : Ld w) (h : txtR d = (s, q)) : Calls Tryd.prog 26 #[dv d, .string ⟨s.toArray⟩, .int .i64 q] w fun e w' => e = .returned (.bool true) ∧ Below w.heap.size w w' := by
  have HT := Lib.hid (fun (wx : World) (hL : Ld wx) => text_any d wx hL)
  rw [h] at HT
  have HLd := Lib.hid hL
  clear hL h
  have hb : ((⟨s.toArray⟩ : ByteArray).toList == (⟨s.toArray⟩ : ByteArray).toList) = true := by simp
  generalize (⟨s.toArray⟩ : ByteArray) = S at *
  obtain ⟨d1, d2⟩ := d
  go_enter Tryd.func26, Tryd.ntmps26
  go_wp2_with fail
  have hB := bel_box w (Obj.cells #[Value.int IntKind.i64 d1, Value.int IntKind.i64 d2] 23)
  refine (HT.out _ (HLd.out.below hB)).mono ?_
  rintro e w2 ⟨rfl, hb2⟩
  have HB := bel_tr (Lib.hid hB) hb2
  clear hB hb2 HT
  go_wp2_with fail
  go_ret
  exact ⟨rfl, HB.out⟩
set_option maxRecDepth 100000 in
set_option maxHeartbeats 1000000 in
theorem parses_any (s : List UInt8) (d : Dt) (q : Int) (w : World) (hL : Ld w) (hlen : s.length ≤ 1000000) (h : prsR s = (d, q)) : Calls Tryd.prog 29 #[.string ⟨s.toArray⟩, dv d, .int .i64 q] w fun e w' => e = .returned (.bool true) ∧ Below w.heap.size w w' := by
  have HT := Lib.hid (fun (wx : World) (hL : Ld wx) => parse_any s wx hL hlen)
  rw [h] at HT
  have HLd := Lib.hid hL
  clear hL h
  generalize (⟨s.toArray⟩ : ByteArray) = S at *
  obtain ⟨d1, d2⟩ := d
  go_enter Tryd.func29, Tryd.ntmps29
  go_wp2_with fail
  have hB := bel_box w (Obj.cells #[Value.int IntKind.i64 d1, Value.int IntKind.i64 d2] 23)
  have h2 : w.heap.size < (w.alloc (Obj.cells #[Value.int IntKind.i64 d1, Value.int IntKind.i64 d2] 23)).heap.size := by simp
  refine (HT.out _ (HLd.out.below hB)).mono ?_
  rintro e w2 ⟨rfl, hb2⟩
  have k0 : w2.cell? ⟨w.heap.size, 0, none⟩ = some (.int .i64 d1) := (hb2.cell (p := ⟨w.heap.size, 0, none⟩) h2).trans (by go_simp)
  have k1 : w2.cell? ⟨w.heap.size, 1, none⟩ = some (.int .i64 d2) := (hb2.cell (p := ⟨w.heap.size, 1, none⟩) h2).trans (by go_simp)
  have HB := bel_tr (Lib.hid hB) hb2
  have g0 := fun o => Lib.cell?_alloc_some o k0
  have g1 := fun o => Lib.cell?_alloc_some o k1
  clear hB hb2 HT h2 k0 k1
  go_wp2_with fail
  go_ret
  exact ⟨rfl, HB.out.alloc HB.out.size _⟩

/-- A box with a dot. -/
def Bx (w : World) (g : Nat) (d : Dt) : Prop := w.cell? ⟨g, 0, none⟩ = some (.int .i64 d.1) ∧ w.cell? ⟨g, 1, none⟩ = some (.int .i64 d.2)
theorem Bx.keep {w w' : World} {g : Nat} {d : Dt} (h : Bx w g d) (hb : Below w.heap.size w w') : Bx w' g d :=
  ⟨(hb.cell (p := ⟨g, 0, none⟩) (lt_of_cell h.1)).trans h.1, (hb.cell (p := ⟨g, 1, none⟩) (lt_of_cell h.2)).trans h.2⟩
theorem Bx.load {w : World} {g : Nat} {d : Dt} (h : Bx w g d) : (Instr.loadAt 23 (.pointer (some ⟨g, 0, none⟩))).run Tryd.prog w = .ok (.agg #[.int .i64 d.1, .int .i64 d.2]) w := load_dot h.1 h.2
/-- The four boxes of the examples. -/
def KS (g : Nat) (w : World) : Prop := Bx w g (3, 7) ∧ Bx w (g + 1) (5, 6) ∧ Bx w (g + 1 + 1) (5, 7) ∧ Bx w (g + 1 + 1 + 1) (0, 0)
theorem KS.keep {g : Nat} {w w' : World} (h : KS g w) (hb : Below w.heap.size w w') : KS g w' := ⟨h.1.keep hb, h.2.1.keep hb, h.2.2.1.keep hb, h.2.2.2.keep hb⟩
theorem KS.a {g : Nat} : ∀ w, KS g w → (Instr.loadAt 23 (.pointer (some ⟨g, 0, none⟩))).run Tryd.prog w = .ok (.agg #[.int .i64 3, .int .i64 7]) w := fun w h => h.1.load
theorem KS.b {g : Nat} : ∀ w, KS g w → (Instr.loadAt 23 (.pointer (some ⟨g + 1, 0, none⟩))).run Tryd.prog w = .ok (.agg #[.int .i64 5, .int .i64 6]) w := fun w h => h.2.1.load
theorem KS.c {g : Nat} : ∀ w, KS g w → (Instr.loadAt 23 (.pointer (some ⟨g + 1 + 1, 0, none⟩))).run Tryd.prog w = .ok (.agg #[.int .i64 5, .int .i64 7]) w := fun w h => h.2.2.1.load
theorem KS.n {g : Nat} : ∀ w, KS g w → (Instr.loadAt 23 (.pointer (some ⟨g + 1 + 1 + 1, 0, none⟩))).run Tryd.prog w = .ok (.agg #[.int .i64 0, .int .i64 0]) w := fun w h => h.2.2.2.load
end Go.Proofs.YtjdhdnlcaonnkaaDoor.D
