/-
  The mark on a constant's bytes: no cell is another one.
-/
import Derived.Test.YtgakbncglkegiaaDoorCKnownA
import Derived.Lib.SlBytesConst
namespace Go.Proofs.YtgakbncglkegiaaDoor.C
set_option linter.unusedVariables false
open Go.RowKit V

/-- Block g is the row C, marked or not. -/
def Blk (w : World) (g : Nat) (C : Array Value) : Prop := ∃ fr, w.heap[g]? = some (.cells C 5 fr)
theorem Blk.new (w : World) (C : Array Value) : Blk (w.alloc (.cells C 5)) w.heap.size C := ⟨(0, 0), by show (w.heap.push _)[w.heap.size]? = _; simp⟩
theorem Blk.lt {w : World} {g : Nat} {C : Array Value} (h : Blk w g C) : g < w.heap.size := by obtain ⟨fr, h⟩ := h; exact (Array.getElem?_eq_some_iff.1 h).1
theorem Blk.below {w w' : World} {g : Nat} {C : Array Value} (h : Blk w g C) (hb : Below w.heap.size w w') : Blk w' g C := by
  have := h.lt
  obtain ⟨fr, h⟩ := h
  exact ⟨fr, by rw [hb.block g this]; exact h⟩
theorem Blk.al {w : World} {g : Nat} {C : Array Value} (h : Blk w g C) (o : Obj) : Blk (w.alloc o) g C := h.below ((Below.refl _ _).alloc (Nat.le_refl _) _)
theorem Blk.row {w : World} {g : Nat} {C : Array Value} {l : List UInt8} (h : Blk w g C) (hC : C.toList = cells8 l) : Row8 w (some ⟨g, 0, none⟩) l := by
  obtain ⟨fr, h⟩ := h
  by_cases hl : l = []
  · exact .inl hl
  refine .inr ⟨_, _, rfl, fun i hi => ?_⟩
  simp only [World.cell?, h, Nat.zero_add]
  rw [if_neg (by simp), ← Array.getElem?_toList, hC]
  simp [cells8, hi]
/-- The world behind the mark. -/
def mkd (w : World) (g n : Nat) : World := w.freeze ⟨g, n, none⟩ 1
theorem mark_run (w : World) (g : Nat) (C : Array Value) (h : Blk w g C) (n c : Nat) :
    (convert 23 23 (.slice (some ⟨g, 0, none⟩) n c)).run Tryd.prog w = .ok (.slice (some ⟨g, 0, none⟩) n c) (mkd w g C.size) := by
  obtain ⟨fr, h⟩ := h
  have hsh : w.shape? g = some (5, C.size) := by unfold World.shape?; rw [h]
  simp [convert, run_underlying Tryd.underlying23, run_underlying Tryd.underlying5, markStringish, hsh]
  rfl
theorem mark_size (w : World) (g n : Nat) : (mkd w g n).heap.size = w.heap.size := by simp [mkd, World.freeze]
theorem mark_grown (w : World) (g n : Nat) : w.grownBy (mkd w g n) (some g) :=
  ⟨rfl, rfl, rfl, by rw [mark_size]; exact Nat.le_refl _, fun k hk hne => by
    simp only [mkd, World.freeze, Nat.one_ne_zero, if_false]
    rw [Array.getElem?_modify, if_neg (fun e => hne (by rw [← e]))]⟩
theorem Blk.mark {w : World} {g : Nat} {C : Array Value} (h : Blk w g C) (k n : Nat) : Blk (mkd w k n) g C := by
  obtain ⟨fr, h⟩ := h
  by_cases hk : k = g
  · subst hk
    obtain ⟨lo, hi⟩ := fr
    refine ⟨(if lo == hi then (n, n + 1) else (min lo n, max hi (n + 1))), ?_⟩
    unfold mkd World.freeze
    rw [if_neg (by decide)]
    show (w.heap.modify k _)[k]? = _
    rw [Array.getElem?_modify, if_pos rfl, h]
    rfl
  · refine ⟨fr, ?_⟩
    unfold mkd World.freeze
    rw [if_neg (by decide)]
    show (w.heap.modify k _)[g]? = _
    rw [Array.getElem?_modify, if_neg hk]
    exact h
theorem bel_mark {w0 w : World} {g : Nat} (h : Hid (Below w0.heap.size w0 w)) (hg : w0.heap.size ≤ g) (n : Nat) : Hid (Below w0.heap.size w0 (mkd w g n)) :=
  below_gb h.out (mark_grown w g n) h.out.size hg
/-- What the walk makes of a constant's bytes. -/
theorem const_run (w : World) (C : Array Value) (n c : Nat) :
    (convert 23 23 (.slice (some ⟨w.heap.size, 0, none⟩) n c)).run Tryd.prog (w.alloc (.cells C 5)) = .ok (.slice (some ⟨w.heap.size, 0, none⟩) n c) (w.alloc (.cells C 5 (C.size, C.size + 1))) :=
  Lib.run_convert_bytes_const w _ _ C n c Tryd.underlying23 Tryd.underlying5
theorem Blk.const (w : World) (C : Array Value) (fr : Nat × Nat) : Blk (w.alloc (.cells C 5 fr)) w.heap.size C := ⟨fr, by show (w.heap.push _)[w.heap.size]? = _; simp⟩
end Go.Proofs.YtgakbncglkegiaaDoor.C
