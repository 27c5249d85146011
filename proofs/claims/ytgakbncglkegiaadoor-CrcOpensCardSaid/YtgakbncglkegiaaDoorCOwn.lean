/-
  Rows of bytes of a call's own: made, written at a place, cut.
-/
import Derived.Test.YtgakbncglkegiaaDoorVOwn
import Derived.Deep.OwnRows
import Derived.Laws.OwnMore
namespace Go.Proofs.YtgakbncglkegiaaDoor.C
set_option linter.unusedVariables false
open Go.RowKit V

theorem mk8 (n : Nat) (hn : n ≤ 281474976710656) (kl kc : IntKind) (w : World) :
    (Instr.makeSlice 23 (.int kl (n : Int)) (.int kc (n : Int))).run Tryd.prog w = .ok (.slice (some ⟨w.heap.size, 0, none⟩) n n) (w.alloc (.cells (madeCells #[.int .u8 0] n) 5)) :=
  run_make_row' _ 5 (.int .u8 0) 1 Tryd.underlying23 info8 rfl kl kc n (by omega) (by omega) w
theorem made8 (w : World) (base : Nat) (n : Nat) (hn : n ≤ 281474976710656) (hb : base ≤ w.heap.size) :
    O8 (w.alloc (.cells (madeCells #[.int .u8 0] n) 5)) base (.slice (some ⟨w.heap.size, 0, none⟩) n n) (List.replicate n 0) := by
  have h := World.ownsRow_lit (base := base) (size := 1) (e := 5) w (madeCells #[.int .u8 0] n) n hb (by unfold maxLen; omega) (by rw [size_madeCells]; omega)
  rw [toList_madeCells_one] at h
  unfold O8 cells8
  rw [List.length_replicate, List.map_replicate]
  exact h
theorem stored8 {w : World} {base g n cap : Nat} {l : List UInt8} (h : O8 w base (.slice (some ⟨g, 0, none⟩) n cap) l) (j : Nat) (c : UInt8) :
    O8 (w.setCell ⟨g, j, none⟩ (.int .u8 (c.toNat : Int))) base (.slice (some ⟨g, 0, none⟩) n cap) (l.set j c) := by
  have hn : n = l.length := by
    rcases h.2 with ⟨e, h0⟩ | ⟨g', cap', cur, e, _⟩
    · simp at e
    · simp only [Value.slice.injEq] at e; exact e.2.1
  subst hn
  have h1 := World.ownsRow.stored h j (.int .u8 (c.toNat : Int))
  unfold O8
  rw [List.length_set]
  have : cells8 (l.set j c) = (cells8 l).set j (.int .u8 (c.toNat : Int)) := by unfold cells8; rw [List.map_set]
  rw [this]
  exact h1.1
/-- What is stored in a row of the call's own can be read and written. -/
theorem cell8 {w : World} {base g n cap : Nat} {l : List UInt8} (h : O8 w base (.slice (some ⟨g, 0, none⟩) n cap) l) (j : Nat) (hj : j < l.length) : w.cell? ⟨g, j, none⟩ = some (.int .u8 (l[j].toNat : Int)) := by
  have hn : n = l.length := by
    rcases h.2 with ⟨e, h0⟩ | ⟨g', cap', cur, e, _⟩
    · simp at e
    · simp only [Value.slice.injEq] at e; exact e.2.1
  subst hn
  rw [World.ownsRow.cellAt h j (by omega)]
  simp [cells8, hj]
theorem free8 {w : World} {base g n cap : Nat} {l : List UInt8} (h : O8 w base (.slice (some ⟨g, 0, none⟩) n cap) l) (j : Nat) : w.frozen? ⟨g, j, none⟩ = false := by
  have hn : n = l.length := by
    rcases h.2 with ⟨e, h0⟩ | ⟨g', cap', cur, e, _⟩
    · simp at e
    · simp only [Value.slice.injEq] at e; exact e.2.1
  subst hn
  exact World.ownsRow.frozenAt h j
end Go.Proofs.YtgakbncglkegiaaDoor.C
