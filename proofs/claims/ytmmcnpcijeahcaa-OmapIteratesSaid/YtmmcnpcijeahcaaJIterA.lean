/-
  What OmapIterates keeps: boxes, iterators.
-/
import Derived.Test.YtmmcnpcijeahcaaJLPlays
namespace Go.Proofs.Ytmmcnpcijeahcaa.J
set_option linter.unusedVariables false
open Go.RowKit V Go.Shelf

theorem Bx.gbm {w w' : World} {b g : Nat} {v : Value} {t : TypeId} {d : Bool} {L : List Pr} (h : Bx w b v t) (hm : Mp w g d L) (hg : w.grownBy w' (some g)) (hv : ∀ f, v ≠ .func (.func f) #[] #[]) : Bx w' b v t :=
  h.gb hg (by simpa using ne_of h.cell hm.c0 (hv _))
theorem ret_bool {fid : Func} {w : World} {b : Nat} {bb : Bool} (hf : fid.results = #[.cell 8 4]) (h : Bx w b (.bool bb) 4) {tmps : Array Value} (h4 : tmps.getD 8 undef = .pointer (some ⟨b, 0, none⟩)) :
    (results fid tmps).run Try.prog w = .ok (.bool bb) w := by
  have k0 := h.cell
  rw [results_cell1 hf, h4]
  go_simp
/-- The boxes of the law: how many, the result. -/
def B2 (w : World) (B : Nat) (t : Int) (bb : Bool) : Prop := Bx w B (.int .u8 t) 5 ∧ Bx w (B + 1) (.bool bb) 4
section
variable {w w' : World} {B g : Nat} {t : Int} {bb d : Bool} {L : List Pr}
theorem B2.keep (h : B2 w B t bb) (hb : Below w.heap.size w w') : B2 w' B t bb := ⟨h.1.keep hb, h.2.keep hb⟩
theorem B2.gb (h : B2 w B t bb) (hm : Mp w g d L) (hg : w.grownBy w' (some g)) : B2 w' B t bb := ⟨h.1.gbm hm hg (by simp), h.2.gbm hm hg (by simp)⟩
theorem B2.gbR (h : B2 w B t bb) {R : Nat} (hg : w.grownBy w' (some R)) (h1 : B ≠ R) (h2 : B + 1 ≠ R) : B2 w' B t bb := ⟨h.1.gb hg (by simpa using h1), h.2.gb hg (by simpa using h2)⟩
end
theorem load_mp {w : World} {b : Nat} {v : Value} (h : Bx w b v 25) : (Instr.loadAt 25 (.pointer (some ⟨b, 0, none⟩))).run Try.prog w = .ok v w := by
  have k0 := h.cell
  go_simp
/-- What an iterator keeps. -/
def Ik (w : World) (b1 b2 : Nat) (T : Tr) (z : Int) : Prop := w.cell? ⟨b1, 0, none⟩ = some (.pointer T.ad) ∧ w.cell? ⟨b2, 0, none⟩ = some (.int .i64 z) ∧ T.In w
section
variable {w w' : World} {b1 b2 g R : Nat} {T : Tr} {z : Int} {d e : Bool} {L : List Pr} {v : Value}
theorem Ik.keep (h : Ik w b1 b2 T z) (hb : Below w.heap.size w w') : Ik w' b1 b2 T z := ⟨keep_cell h.1 hb, keep_cell h.2.1 hb, h.2.2.keep hb⟩
theorem Ik.gb (h : Ik w b1 b2 T z) (hm : Mp w g d L) (hg : w.grownBy w' (some g)) : Ik w' b1 b2 T z := by
  have h1 := ne_of h.1 hm.c0 (by simp)
  have h2 := ne_of h.2.1 hm.c0 (by simp)
  obtain ⟨_, _, _, _, hh4, _⟩ := hm
  exact ⟨cell_gb h.1 hg (by simpa using h1), cell_gb h.2.1 hg (by simpa using h2), h.2.2.gb hg (Tr.on_ne hh4 h.2.2)⟩
end
end Go.Proofs.Ytmmcnpcijeahcaa.J
