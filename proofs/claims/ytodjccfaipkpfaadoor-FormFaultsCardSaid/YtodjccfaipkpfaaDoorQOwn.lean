/-
  Rows of nodes of a call's own that are written, and sorted.
-/
import Derived.Test.YtodjccfaipkpfaaDoorQCat
import Derived.Test.YtodjccfaipkpfaaDoorMQAsk
import Derived.Test.YtodjccfaipkpfaaDoorMDRefB
namespace Go.Proofs.YtodjccfaipkpfaaDoor.Qs
set_option linter.unusedVariables false
open Go.RowKit V Go.Sort Go.Shelf D Nd

theorem heap_set {w : World} {g : Nat} {cur : Array Value} {e : TypeId} (h : w.heap[g]? = some (.cells cur e (0, 0))) (i : Nat) (v : Value) : (w.setCell ⟨g, i, none⟩ v).heap[g]? = some (.cells (cur.setIfInBounds i v) e (0, 0)) := by
  simp only [World.setCell, Array.getElem?_modify, if_true, h, Option.map_some]
  simp
theorem on_of {w : World} {base g cap : Nat} {cur : Array Value} {l : List Nt} (hb : base ≤ g) (hg : w.heap[g]? = some (.cells cur E (0, 0))) (hn : l.length ≤ cap) (hc : cap ≤ maxLen) (hs : cur.size = cap * 6)
    (hr : ∀ i (hi : i < l.length) (j : Nat), j < 6 → cur[i * 6 + j]? = (nc l[i])[j]?) : ON w base E (.slice (some ⟨g, 0, none⟩) l.length cap) l := by
  refine ⟨cellsN_length l, .inr ⟨g, cap, cur, rfl, hb, hg, hn, hc, hs, ?_⟩⟩
  apply List.ext_getElem?
  intro t
  rw [List.getElem?_take]
  by_cases ht : t < l.length * 6
  · rw [if_pos ht, Array.getElem?_toList]
    have hi : t / 6 < l.length := by omega
    have h1 := hr (t / 6) hi (t % 6) (by omega)
    have h2 := cellsN_at l (t / 6) hi (t % 6) (by omega)
    have e : t / 6 * 6 + t % 6 = t := by omega
    rw [e] at h1 h2
    rw [h1, h2]
  · rw [if_neg ht, List.getElem?_eq_none (by rw [cellsN_length]; omega)]
theorem ON.cur {w : World} {base : Nat} {v : Value} {l : List Nt} (h : ON w base E v l) : (v = .slice none 0 0 ∧ l = []) ∨ ∃ g cap cur, v = .slice (some ⟨g, 0, none⟩) l.length cap ∧ base ≤ g ∧ w.heap[g]? = some (.cells cur E (0, 0)) ∧ l.length ≤ cap ∧ cap ≤ maxLen ∧ cur.size = cap * 6 ∧ ∀ i (hi : i < l.length) (j : Nat), j < 6 → cur[i * 6 + j]? = (nc l[i])[j]? := by
  rcases h.2 with ⟨rfl, h0⟩ | ⟨g, cap, cur, rfl, hb, hg, hn, hc, hs, ht⟩
  · exact .inl ⟨rfl, List.eq_nil_of_length_eq_zero h0⟩
  · refine .inr ⟨g, cap, cur, rfl, hb, hg, hn, hc, hs, fun i hi j hj => ?_⟩
    rw [← cellsN_at l i hi j hj, ← ht, List.getElem?_take, if_pos (by omega), Array.getElem?_toList]
/-- A node that is stored into a row. -/
def putAt (w : World) (g o : Nat) (n : Nt) : World :=
  (((((w.setCell ⟨g, o, none⟩ (.int .i64 n.1.1)).setCell ⟨g, o + 1, none⟩ (.int .i64 n.1.2)).setCell ⟨g, o + 2, none⟩ (.int .i64 n.2.1.1)).setCell ⟨g, o + 3, none⟩ (.int .i64 n.2.1.2)).setCell ⟨g, o + 4, none⟩ (.int .i64 n.2.2.1)).setCell ⟨g, o + 5, none⟩ (.int .i32 n.2.2.2)
theorem putAt_below {B : Nat} {a w : World} {g : Nat} (h : Below B a w) (hg : B ≤ g) (o : Nat) (n : Nt) : Below B a (putAt w g o n) :=
  (((((h.setCell (p := ⟨g, _, none⟩) hg _).setCell (p := ⟨g, _, none⟩) hg _).setCell (p := ⟨g, _, none⟩) hg _).setCell (p := ⟨g, _, none⟩) hg _).setCell (p := ⟨g, _, none⟩) hg _).setCell (p := ⟨g, _, none⟩) hg _
theorem putAt_gb (w : World) (g o : Nat) (n : Nt) : w.grownBy (putAt w g o n) (some g) :=
  gb_trans (gb_trans (gb_trans (gb_trans (gb_trans (gb_setCell _ _ _ _) (gb_setCell _ _ _ _)) (gb_setCell _ _ _ _)) (gb_setCell _ _ _ _)) (gb_setCell _ _ _ _)) (gb_setCell _ _ _ _)
theorem heap_putAt {w : World} {g : Nat} {cur : Array Value} {e : TypeId} (h : w.heap[g]? = some (.cells cur e (0, 0))) (o : Nat) (n : Nt) : (putAt w g o n).heap[g]? = some (.cells ((((((cur.setIfInBounds o (.int .i64 n.1.1)).setIfInBounds (o + 1) (.int .i64 n.1.2)).setIfInBounds (o + 2) (.int .i64 n.2.1.1)).setIfInBounds (o + 3) (.int .i64 n.2.1.2)).setIfInBounds (o + 4) (.int .i64 n.2.2.1)).setIfInBounds (o + 5) (.int .i32 n.2.2.2)) e (0, 0)) :=
  heap_set (heap_set (heap_set (heap_set (heap_set (heap_set h _ _) _ _) _ _) _ _) _ _) _ _
theorem ON.put {w : World} {base g c m : Nat} {l : List Nt} (h : ON w base E (.slice (some ⟨g, 0, none⟩) m c) l) {k : Nat} (hk : k < l.length) (n : Nt) : ON (putAt w g (k * 6) n) base E (.slice (some ⟨g, 0, none⟩) m c) (l.set k n) := by
  rcases h.cur with ⟨e, -⟩ | ⟨g', cap, cur, e, hb, hg, hn, hc, hs, hr⟩
  · cases e
  · simp only [Value.slice.injEq, Option.some.injEq, Addr.mk.injEq, and_true] at e
    obtain ⟨rfl, rfl, rfl⟩ := e
    have := on_of (l := l.set k n) hb (heap_putAt hg (k * 6) n) (by simpa using hn) hc (by simpa using hs) (fun i hi j hj => ?_)
    · rw [List.length_set] at this; exact this
    · rw [List.length_set] at hi
      simp only [Array.getElem?_setIfInBounds, Array.size_setIfInBounds]
      rw [List.getElem_set]
      by_cases e : k = i
      · subst e
        rw [if_pos rfl]
        match j, hj with
        | 0, _ => simp; omega
        | 1, _ => simp; omega
        | 2, _ => simp; omega
        | 3, _ => simp; omega
        | 4, _ => simp; omega
        | 5, _ => simp; omega
      · rw [if_neg e, if_neg (by omega), if_neg (by omega), if_neg (by omega), if_neg (by omega), if_neg (by omega), if_neg (by omega)]
        exact hr i hi j hj
theorem ON.putTime {w : World} {base g c m : Nat} {l : List Nt} (h : ON w base E (.slice (some ⟨g, 0, none⟩) m c) l) {k : Nat} (hk : k < l.length) (z : Int) : ON (w.setCell ⟨g, k * 6 + 4, none⟩ (.int .i64 z)) base E (.slice (some ⟨g, 0, none⟩) m c) (l.set k (l[k].1, l[k].2.1, z, l[k].2.2.2)) := by
  rcases h.cur with ⟨e, -⟩ | ⟨g', cap, cur, e, hb, hg, hn, hc, hs, hr⟩
  · cases e
  · simp only [Value.slice.injEq, Option.some.injEq, Addr.mk.injEq, and_true] at e
    obtain ⟨rfl, rfl, rfl⟩ := e
    have := on_of (l := l.set k (l[k].1, l[k].2.1, z, l[k].2.2.2)) hb (heap_set hg (k * 6 + 4) (.int .i64 z)) (by simpa using hn) hc (by simpa using hs) (fun i hi j hj => ?_)
    · rw [List.length_set] at this; exact this
    · rw [List.length_set] at hi
      simp only [Array.getElem?_setIfInBounds]
      rw [List.getElem_set]
      by_cases e : k = i
      · subst e
        rw [if_pos rfl]
        by_cases e4 : j = 4
        · subst e4
          simp; omega
        · rw [if_neg (by omega), hr k hi j hj]
          match j, hj, e4 with
          | 0, _, _ => rfl
          | 1, _, _ => rfl
          | 2, _, _ => rfl
          | 3, _, _ => rfl
          | 5, _, _ => rfl
      · rw [if_neg e, if_neg (by omega)]
        exact hr i hi j hj
theorem ON.free {w : World} {base g c m : Nat} {l : List Nt} (h : ON w base E (.slice (some ⟨g, 0, none⟩) m c) l) (o : Nat) : w.frozen? ⟨g, o, none⟩ = false := by
  rcases h.cur with ⟨e, -⟩ | ⟨g', cap, cur, e, hb, hg, hn, hc, hs, hr⟩
  · cases e
  · simp only [Value.slice.injEq, Option.some.injEq, Addr.mk.injEq, and_true] at e
    obtain ⟨rfl, rfl, rfl⟩ := e
    simp [World.frozen?, hg]
theorem ON.na {w : World} {base g m c : Nat} {l : List Nt} (h : ON w base E (.slice (some ⟨g, 0, none⟩) m c) l) (k : Nat) (hk : k < l.length) : Na w g (k * 6) l[k] := by
  obtain ⟨b, o, e, hn⟩ := na_of h.r.1 k hk
  cases e
  rw [Nat.zero_add] at hn
  exact hn
end Go.Proofs.YtodjccfaipkpfaaDoor.Qs
