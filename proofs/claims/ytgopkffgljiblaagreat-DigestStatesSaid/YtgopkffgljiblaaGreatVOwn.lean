/-
  Rows of bytes that a call has made itself, and what is appended to them.
-/
import Derived.Test.YtgopkffgljiblaaGreatRows
import Derived.Test.YtgopkffgljiblaaGreatVMem
import Derived.Laws.AppendOwnNone
namespace Go.Proofs.YtgopkffgljiblaaGreat.V
set_option linter.unusedVariables false
open Go.RowKit

def cells8 (l : List UInt8) : List Value := l.map fun c => .int .u8 (c.toNat : Int)
theorem cells8_length (l : List UInt8) : (cells8 l).length = l.length := by simp [cells8]
theorem cells8_append (l m : List UInt8) : cells8 (l ++ m) = cells8 l ++ cells8 m := by simp [cells8]

/-- v is a row of the call's own that holds the bytes l. -/
def O8 (w : World) (base : Nat) (v : Value) (l : List UInt8) : Prop := w.ownsRow base 5 1 v l.length (cells8 l)

theorem info8 : (Tryz.prog.info? 5).map (fun i => (i.zero, i.size, i.bytes)) = some (some (.int .u8 0), 1, 1) := by kernel_rfl

theorem O8.nil (w : World) (base : Nat) : O8 w base (.slice none 0 0) [] := World.ownsRow_nil w base _ 1

theorem O8.row {w : World} {base : Nat} {v : Value} {l : List UInt8} (h : O8 w base v l) : ∃ a c, v = .slice a l.length c ∧ Row8 w a l ∧ (a = none → c = 0 ∧ l = []) ∧ (∀ x, a = some x → x = ⟨x.block, 0, none⟩ ∧ v.ownBlock = some x.block ∧ base ≤ x.block ∧ x.block < w.heap.size) := by
  rcases h.2 with ⟨rfl, h0⟩ | ⟨g, cap, cur, rfl, hb, hg, hn, hc, hs, ht⟩
  · have : l = [] := List.eq_nil_of_length_eq_zero h0
    subst this
    exact ⟨none, 0, rfl, .inl rfl, (fun _ => ⟨rfl, rfl⟩), (fun x hx => by cases hx)⟩
  · refine ⟨some ⟨g, 0, none⟩, cap, rfl, ?_, (fun h => by cases h), fun x hx => ?_⟩
    · by_cases hl : l = []
      · exact .inl hl
      · refine .inr ⟨g, 0, rfl, fun i hi => ?_⟩
        have hcell := World.ownsRow.cellAt h i (by omega)
        rw [Nat.zero_add, hcell]
        simp [cells8, hi]
    · cases hx
      exact ⟨rfl, rfl, hb, (Array.getElem?_eq_some_iff.1 hg).1⟩

theorem O8.shape {w : World} {base : Nat} {v : Value} {l : List UInt8} (h : O8 w base v l) : ∃ a n c, v = .slice a n c := by
  obtain ⟨a, c, e, _⟩ := h.row
  exact ⟨a, _, c, e⟩

theorem O8.keep {w w' : World} {base : Nat} {v : Value} {l : List UInt8} {row : Option Nat} (h : O8 w base v l) (hg : w.grownBy w' row) (hne : v.ownBlock = none ∨ v.ownBlock ≠ row) : O8 w' base v l := World.ownsRow.kept h hg hne
theorem O8.below {w w' : World} {base : Nat} {v : Value} {l : List UInt8} (h : O8 w base v l) (hb : Below w.heap.size w w') : O8 w' base v l := by
  refine ⟨h.1, ?_⟩
  rcases h.2 with hn | ⟨g, cap, cur, rfl, hbg, hgg, rest⟩
  · exact .inl hn
  · refine .inr ⟨g, cap, cur, rfl, hbg, ?_, rest⟩
    rw [hb.block g (Array.getElem?_eq_some_iff.1 hgg).1]
    exact hgg
theorem O8.mono {w : World} {base base' : Nat} {v : Value} {l : List UInt8} (h : O8 w base v l) (hb : ∀ k, v.ownBlock = some k → base' ≤ k) : O8 w base' v l := by
  refine ⟨h.1, ?_⟩
  rcases h.2 with hn | ⟨g, cap, cur, rfl, hbg, rest⟩
  · exact .inl hn
  · exact .inr ⟨g, cap, cur, rfl, hb g rfl, rest⟩
theorem O8.lt {w : World} {base : Nat} {v : Value} {l : List UInt8} (h : O8 w base v l) : ∀ k, v.ownBlock = some k → base ≤ k ∧ k < w.heap.size := World.ownsRow.lt h

/-- The row that an append leaves: the one that was there, or a new one. -/
def Grew (w : World) (v v' : Value) : Prop := v'.ownBlock = v.ownBlock ∨ ∃ k, v'.ownBlock = some k ∧ w.heap.size ≤ k

theorem Grew.refl (w : World) (v : Value) : Grew w v v := .inl rfl
theorem Grew.trans {w a : World} {v x y : Value} (h : Grew w v x) (hs : w.heap.size ≤ a.heap.size) (k : Grew a x y) : Grew w v y := by
  rcases k with k | ⟨g, hg, hge⟩
  · rcases h with h | ⟨g, hg, hge⟩
    · exact .inl (k.trans h)
    · exact .inr ⟨g, k.trans hg, hge⟩
  · exact .inr ⟨g, hg, Nat.le_trans hs hge⟩
theorem gb_grew {w a b : World} {v x : Value} (h : w.grownBy a v.ownBlock) (hx : Grew w v x) (k : a.grownBy b x.ownBlock) : w.grownBy b v.ownBlock := by
  refine ⟨k.os.trans h.os, k.tape.trans h.tape, k.output.trans h.output, Nat.le_trans h.size k.size, fun i hi hr => (k.block i (Nat.lt_of_lt_of_le hi h.size) ?_).trans (h.block i hi hr)⟩
  rcases hx with hx | ⟨g, hg, hge⟩
  · rw [hx]; exact hr
  · rw [hg]; intro e; cases e; omega

/-- One new byte. -/
theorem row_one (w : World) (c : UInt8) (t : TypeId) : Row8 (w.alloc (.cells #[.int .u8 (c.toNat : Int)] t)) (some ⟨w.heap.size, 0, none⟩) [c] := by
  refine .inr ⟨_, _, rfl, fun i hi => ?_⟩
  have : i = 0 := by simpa using hi
  subst this
  simp

theorem own_one (w : World) (c : UInt8) (base : Nat) (hb : base ≤ w.heap.size) : O8 (w.alloc (.cells #[.int .u8 (c.toNat : Int)] 5)) base (.slice (some ⟨w.heap.size, 0, none⟩) 1 1) [c] := by
  refine ⟨rfl, .inr ⟨w.heap.size, 1, #[.int .u8 (c.toNat : Int)], rfl, hb, ?_, Nat.le_refl _, by unfold maxLen; omega, rfl, rfl⟩⟩
  show (w.heap.push _)[w.heap.size]? = _
  simp

end Go.Proofs.YtgopkffgljiblaaGreat.V
