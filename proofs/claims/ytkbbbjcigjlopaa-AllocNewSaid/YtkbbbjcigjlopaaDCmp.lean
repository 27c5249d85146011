/-
  The order of two dots: the program's Compare, the reference's Less and Compare.
-/
import Derived.Test.YtkbbbjcigjlopaaDBase
import Derived.Deep.RegionWith
import Derived.RegionTactic
import Derived.Below
namespace Go.Proofs.Ytkbbbjcigjlopaa.D
set_option linter.unusedVariables false
open Go.RowKit V Go.Sort

theorem bel_drewN {B : Nat} {a w : World} (h : Below B a w) (n : Nat) : Below B a (w.drewN n) := h.trans ⟨rfl, rfl, rfl, Nat.le_refl _, fun _ _ => rfl⟩
theorem bel_tr {w w1 w2 : World} (h : Hid (Below w.heap.size w w1)) (hb : Below w1.heap.size w1 w2) : Hid (Below w.heap.size w w2) := h.out.trans (hb.mono h.out.size)
/-- Nothing but new blocks and draws. -/
def Lays (w w' : World) : Prop := ∃ q os', w' = grow (w.drewN q) os'
theorem bel_grow {B : Nat} {w w' : World} (h : Below B w w') (hB : B ≤ w'.heap.size) (os : Array Obj) : Below B w (grow w' os) := by
  refine ⟨h.os, h.tape, h.output, ?_, fun b hb => ?_⟩
  · have := h.size
    show _ ≤ (w'.heap ++ os).size
    rw [Array.size_append]; omega
  · show (w'.heap ++ os)[b]? = _
    rw [Array.getElem?_append_left (by omega)]
    exact h.block b hb
theorem Lays.bel {w w' : World} (h : Lays w w') : Below w.heap.size w w' := by
  obtain ⟨q, os, rfl⟩ := h
  exact bel_grow (bel_drewN (Below.refl _ _) q) (Nat.le_refl _) os
theorem lays_alloc2 (w : World) (o1 o2 : Obj) : Lays w ((w.alloc o1).alloc o2) := ⟨0, _, by rw [alloc_eq_grow, alloc_eq_grow, grow_grow]; rfl⟩

theorem cmp_two (x y : Dt) : (if cmpI x.2 y.2 = 0 then cmpI x.1 y.1 else cmpI x.2 y.2) = cmpR x y := by
  unfold cmpI cmpR less
  rcases Int.lt_trichotomy x.2 y.2 with h | h | h
  · have h1 : ¬ x.2 = y.2 := by omega
    simp [h, h1]
  · have h2 : ¬ x.2 < y.2 := by omega
    have h3 : ¬ y.2 < x.2 := by omega
    rw [if_neg h2, if_neg h3, if_pos rfl]
    simp [h]
  · have h1 : ¬ x.2 = y.2 := by omega
    have h2 : ¬ y.2 = x.2 := by omega
    have h3 : ¬ x.2 < y.2 := by omega
    simp [h, h1, h2, h3]

end Go.Proofs.Ytkbbbjcigjlopaa.D
