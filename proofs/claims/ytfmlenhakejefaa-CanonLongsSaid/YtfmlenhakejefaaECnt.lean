/-
  The program's counters: what they are, plainly; the vector with these counters.
-/
import Derived.Test.YtfmlenhakejefaaMEVal
import Derived.Deep.WholeRow
import Derived.Deep.MidRow
namespace Go.Proofs.Ytfmlenhakejefaa.E
set_option linter.unusedVariables false
open Go.RowKit V Go.Sort D

/-- The counters of 65 replicas as the cells of one value. -/
def Cn (cs : List Value) (f : Nat → Int) : Prop := cs.length = 65 ∧ ∀ i, i < 65 → cs[i]? = some (.int .i64 (f i))
/-- The dots of the replicas from k up to 64 whose counter is not 0. -/
def vecFrom (f : Nat → Int) (k : Nat) : List Dt := (List.range' k (65 - k)).filterMap fun i => if 0 < f i then some ((i : Int), f i) else none
theorem vec_step {f : Nat → Int} {k : Nat} (h : k < 65) : vecFrom f k = (if 0 < f k then [((k : Int), f k)] else []) ++ vecFrom f (k + 1) := by
  unfold vecFrom
  obtain ⟨n, hn⟩ : ∃ n, 65 - k = n + 1 := ⟨64 - k, by omega⟩
  rw [hn, show 65 - (k + 1) = n by omega, List.range'_succ, List.filterMap_cons]
  split
  · rename_i e
    split at e
    · cases e
    · rename_i h; rw [if_neg h]; rfl
  · rename_i b e
    split at e
    · rename_i h; rw [if_pos h]; cases e; rfl
    · cases e
theorem vec_end {f : Nat → Int} {k : Nat} (h : 65 ≤ k) : vecFrom f k = [] := by
  unfold vecFrom
  rw [show 65 - k = 0 by omega]
  rfl

theorem range_new (w : World) (cs : List Value) (t : TypeId) : (w.alloc (.cells cs.toArray t)).rangeAt w.heap.size 0 cs := by
  intro j v hj
  have hh : (w.alloc (.cells cs.toArray t)).heap[w.heap.size]? = some (.cells cs.toArray t (0, 0)) := by show (w.heap.push _)[w.heap.size]? = _; simp
  simp only [World.cell?, hh]
  rw [if_neg (by simp), Nat.zero_add]
  simpa using hj
end Go.Proofs.Ytfmlenhakejefaa.E
