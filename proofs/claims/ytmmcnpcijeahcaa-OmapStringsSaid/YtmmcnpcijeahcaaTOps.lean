/-
  Maps: the methods that only read.
-/
import Derived.Test.YtmmcnpcijeahcaaTFind
namespace Go.Proofs.Ytmmcnpcijeahcaa.Jt
set_option linter.unusedVariables false
open Go.RowKit V Go.Shelf

/-- Block g is a map with these pairs. -/
def Mp (w : World) (g : Nat) (d : Bool) (L : List Pr) : Prop :=
  ∃ T : Tr, Mc w g (fnOf d) T.ad ∧ T.In w ∧ T.list = L ∧ w.cell? ⟨g, 4, none⟩ = none ∧ (∀ o, w.frozen? ⟨g, o, none⟩ = false) ∧ Srt d L ∧ L.length < 1000000
theorem Mp.lt {w : World} {g : Nat} {d : Bool} {L : List Pr} (h : Mp w g d L) : g < w.heap.size := by
  obtain ⟨T, h, -⟩ := h
  exact lt_of_cell h.1
theorem Mp.keep {w w' : World} {g : Nat} {d : Bool} {L : List Pr} (h : Mp w g d L) (hb : Below w.heap.size w w') : Mp w' g d L := by
  have hg := h.lt
  obtain ⟨T, h1, h2, h3, h4, h5, h6⟩ := h
  exact ⟨T, h1.keep hb, h2.keep hb, h3, (World.cell?_of_block (w := w) (hb.block g hg)).trans h4, fun o => (hb.frozen (p := ⟨g, o, none⟩) hg).trans (h5 o), h6⟩
theorem Mp.drew {w : World} {g : Nat} {d : Bool} {L : List Pr} (h : Mp w g d L) : Mp w.drew g d L := h.keep (Below.refl _ _).drew
theorem Tr.on_ne {w : World} {g : Nat} (h : w.cell? ⟨g, 4, none⟩ = none) : ∀ {t : Tr}, t.In w → t.on fun b => b ≠ g
  | .nil, _ => trivial
  | .node b k v l r, k' => ⟨(by rintro rfl; have := k'.1.2.2.2.2; rw [h] at this; cases this), Tr.on_ne h k'.2.1, Tr.on_ne h k'.2.2⟩
/-- The value of a key, and whether there is one. -/
def getR (d : Bool) (L : List Pr) (k : Ky) : Sl × Bool := match find d L k with | some p => (p.2, true) | none => (⟨none, 0, 0⟩, false)
theorem getR_find (d : Bool) (L : List Pr) (k : Ky) : getR d L k = match find d L k with | some p => (p.2, true) | none => (⟨none, 0, 0⟩, false) := rfl
theorem cmp_fn (d : Bool) : Cmp (fnOf d) d := cmp_of d
abbrev pbox (t : Option Addr) (z : Int) (u : Option Addr) : Obj := .cells #[.pointer t, .int .i64 z, .pointer u] 94

set_option maxRecDepth 100000 in
set_option maxHeartbeats 1000000 in
theorem get_yes (g : Nat) (d : Bool) (L : List Pr) (k : Ky) (w : World) (h : Mp w g d L) :
    Calls Try.prog 26 #[.pointer (some ⟨g, 0, none⟩), .string k.s] w fun e w' => e = .returned (.tuple #[.slice (getR d L k).1.a (getR d L k).1.n (getR d L k).1.c, .bool (getR d L k).2]) ∧ Below w.heap.size w w' := by
  obtain ⟨T, h1, h2, rfl, h4, h5, h6, h7⟩ := h
  have HT := Lib.hid h2
  have hz : T.len ≤ 1000000 := Nat.le_of_lt h7
  have HF := Lib.hid (find_yes g (fnOf d) d T k w (cmp_fn d) h1 h2 h6 hz)
  have HG := Lib.hid (getR_find d T.list k)
  generalize rank d T.list k = Z at *
  generalize find d T.list k = F at *
  generalize getR d T.list k = G at *
  clear h1 h2 h4 h5 h6 h7 hz
  go_enter Try.func26, Try.ntmps26
  go_wp2_with fail
  refine HF.out.mono ?_
  rintro e w2 ⟨U, rfl, hu, ht, hb⟩
  have HX := Lib.hid hu
  have HU := Lib.hid ht
  have HB := Lib.hid hb
  have HT2 := Lib.hid (HT.out.keep hb)
  clear hu ht hb HF HT
  go_wp2_with fail
  have HE := Lib.hid (entry_any U F _ (HX.out _ (HT2.out.keep (bel_box w2 (pbox T.ad Z U.ad)))) HU.out)
  replace HB := Lib.hid (HB.out.alloc HB.out.size (pbox T.ad Z U.ad))
  rcases F with _ | p
  · refine HE.out.mono ?_
    rintro e w3 ⟨rfl, hb⟩
    have HB3 := Lib.hid (bel_tr HB.out hb)
    clear hb HE
    simp only [tops]
    go_wp2_with fail
    go_ret2
    exact ⟨by rw [HG.out]; rfl, HB3.out⟩
  · refine HE.out.mono ?_
    rintro e w3 ⟨rfl, hb⟩
    have HB3 := Lib.hid (bel_tr HB.out hb)
    clear hb HE
    simp only [tops]
    go_wp2_with fail
    go_ret2
    exact ⟨by rw [HG.out]; rfl, HB3.out⟩

set_option maxRecDepth 100000 in
set_option maxHeartbeats 1000000 in
theorem len_yes (g : Nat) (d : Bool) (L : List Pr)  (w : World) (h : Mp w g d L) :
    Calls Try.prog 29 #[.pointer (some ⟨g, 0, none⟩)] w fun e w' => e = .returned (.int .i64 (L.length : Nat)) ∧ Below w.heap.size w w' := by
  obtain ⟨T, h1, h2, rfl, h4, h5, h6, h7⟩ := h
  have HT := Lib.hid h2
  have hz : T.len ≤ 1000000 := Nat.le_of_lt h7
  have HA := Lib.hid (all_yes g (fnOf d) T.ad w h1)
  have HL := Lib.hid (len_any T w h2)
  rw [show T.len = T.list.length from rfl] at HL
  generalize T.list.length = N at *
  clear h1 h2 h4 h5 h6 h7 hz
  go_enter Try.func29, Try.ntmps29
  go_wp2_with fail
  refine HA.out.mono ?_
  rintro e w2 ⟨rfl, rfl⟩
  go_wp2_with fail
  refine HL.out.mono ?_
  rintro e w2 ⟨rfl, rfl⟩
  go_wp2_with fail
  go_ret
  exact ⟨rfl, Below.refl _ _⟩

/-- The last pair that does not come after a key. -/
def floorR (d : Bool) (L : List Pr) (k : Ky) : Option Pr := match find d L k with | some p => some p | none => atL L ((rank d L k : Nat) - 1)

end Go.Proofs.Ytmmcnpcijeahcaa.Jt
