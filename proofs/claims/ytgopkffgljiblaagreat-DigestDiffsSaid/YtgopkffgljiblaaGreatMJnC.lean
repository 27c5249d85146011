/-
  Layer 14's reference: two nodes merged, whether two states agree, copies, spoilt copies.
-/
import Derived.Test.YtgopkffgljiblaaGreatMQAsk
import Derived.Test.YtgopkffgljiblaaGreatQCat
import Derived.Test.YtgopkffgljiblaaGreatMDRefB

section
namespace Go.Proofs.YtgopkffgljiblaaGreat.Jn
set_option linter.unusedVariables false
open Go.RowKit V Go.Sort D Nd Qs
attribute [local irreducible] Sch.heldN Sch.stepV Sch.stepE

theorem bel_none {w w1 : World} (hg : w.grownBy w1 none) : Below w.heap.size w w1 := ⟨hg.os, hg.tape, hg.output, hg.size, fun b hb => hg.block b hb (by simp)⟩
set_option maxRecDepth 100000 in
set_option maxHeartbeats 2000000 in
theorem copy_ref (l : List Nt) (a : Option Addr) (c : Nat) (w : World) (hx : RowN w a l) (hna : a = none → c = 0) (hlx : l.length ≤ 1000000) :
    Calls Tryz.prog 18 #[.slice a l.length c] w fun e w' => ∃ v, e = .returned v ∧ ON w' w.heap.size 51 v l ∧ Below w.heap.size w w' := by
  have HX := Lib.hid hx
  have HNa := Lib.hid hna
  have HLe := Lib.hid hlx
  clear hx hna hlx
  go_enter Tryz.func18, Tryz.ntmps18
  go_wp2_with (at_builtin; refine wpList_appN rfl _ _ _ rfl Tryz.underlying36 infoN (.slice none 0 0) [] rfl (ON.nil _ w.heap.size _) a l c l.length rfl rfl HX.out HNa.out (by have := HLe.out; simp only [List.length_nil]; omega) (Nat.le_refl _) ?_)
  intro v5 w5 ho hg _
  have HO := Lib.hid ho
  have HB := Lib.hid (bel_none hg)
  clear ho hg
  go_wp2_with fail
  go_ret
  exact ⟨v5, rfl, HO.out, HB.out⟩
end Go.Proofs.YtgopkffgljiblaaGreat.Jn
end

/-
  Layer 14's reference: whether two states agree.
-/
section
namespace Go.Proofs.YtgopkffgljiblaaGreat.Jn
set_option linter.unusedVariables false
open Go.RowKit V Go.Sort D Nd Qs
attribute [local irreducible] Sch.heldN Sch.stepV Sch.stepE

theorem idx_eq {l : List Nt} {d : Dt} : (idxS l d = -1 ∧ atS l d = none) ∨ ∃ k, ∃ hk : k < l.length, idxS l d = (k : Int) ∧ atS l d = some l[k] := by
  by_cases h : ∃ k, ∃ hk : k < l.length, l[k].1 = d ∧ ∀ j (hj : j < l.length), j < k → l[j].1 ≠ d
  · obtain ⟨k, hk, e, hn⟩ := h
    obtain ⟨h1, h2⟩ := idx_hit hk hn e
    exact .inr ⟨k, hk, h1, h2⟩
  · have hn : ∀ j (hj : j < l.length), l[j].1 ≠ d := by
      intro j
      induction j using Nat.strongRecOn with
      | ind j ih => exact fun hj e => h ⟨j, hj, e, fun i hi hij => ih i hij hi⟩
    obtain ⟨h1, h2⟩ := idx_none hn
    exact .inl ⟨h1, h2⟩
/-- What one node says of a state. -/
def okS (b : List Nt) (x : Nt) : Bool := match atS b x.1 with | none => true | some y => agreeN x y
theorem agS_def (a b : List Nt) : agS a b = a.all (okS b) := rfl
/-- Two nodes of two rows. -/
def Vab (b1 o1 b2 o2 : Nat) (n m : Nt) (w : World) : Prop := Na w b1 o1 n ∧ Na w b2 o2 m
section
variable {b1 o1 b2 o2 : Nat} {n m : Nt}
theorem Vab.keep {w w' : World} (h : Vab b1 o1 b2 o2 n m w) (hb : Below w.heap.size w w') : Vab b1 o1 b2 o2 n m w' := ⟨h.1.keep hb, h.2.keep hb⟩
theorem Vab.ln : ∀ w, Vab b1 o1 b2 o2 n m w → (Instr.loadAt 51 (.pointer (some ⟨b1, o1, none⟩))).run Tryz.prog w = .ok (nv n) w := fun w k => k.1.load
theorem Vab.lm : ∀ w, Vab b1 o1 b2 o2 n m w → (Instr.loadAt 51 (.pointer (some ⟨b2, o2, none⟩))).run Tryz.prog w = .ok (nv m) w := fun w k => k.2.load
theorem na_gb {w w' : World} {b o r : Nat} {n : Nt} (h : Na w b o n) (hg : w.grownBy w' (some r)) (hne : b ≠ r) : Na w' b o n := by
  have e : w'.heap[b]? = w.heap[b]? := hg.block b (lt_of_cell h.1) (by simpa using hne)
  obtain ⟨h0, h1, h2, h3, h4, h5⟩ := h
  exact ⟨(World.cell?_of_block (a := ⟨b, _, none⟩) e).trans h0, (World.cell?_of_block (a := ⟨b, _, none⟩) e).trans h1, (World.cell?_of_block (a := ⟨b, _, none⟩) e).trans h2, (World.cell?_of_block (a := ⟨b, _, none⟩) e).trans h3, (World.cell?_of_block (a := ⟨b, _, none⟩) e).trans h4, (World.cell?_of_block (a := ⟨b, _, none⟩) e).trans h5⟩
theorem gb_putN (w : World) (g : Nat) (n : Nt) : w.grownBy (Nd.putN w g n) (some g) :=
  gb_trans (gb_trans (gb_trans (gb_trans (gb_trans (gb_setCell _ _ _ _) (gb_setCell _ _ _ _)) (gb_setCell _ _ _ _)) (gb_setCell _ _ _ _)) (gb_setCell _ _ _ _)) (gb_setCell _ _ _ _)
theorem Vab.put {w : World} {g : Nat} (h : Vab b1 o1 b2 o2 n m w) (h1 : b1 < g) (h2 : b2 < g) (x : Nt) : Vab b1 o1 b2 o2 n m (Nd.putN w g x) := ⟨na_gb h.1 (gb_putN w g x) (by omega), na_gb h.2 (gb_putN w g x) (by omega)⟩
theorem Vab.lt {w : World} (h : Vab b1 o1 b2 o2 n m w) : b1 < w.heap.size ∧ b2 < w.heap.size := ⟨lt_of_cell h.1.1, lt_of_cell h.2.1⟩
end
end Go.Proofs.YtgopkffgljiblaaGreat.Jn
end

/-
  Rows of nodes of a call's own that are written, and sorted.
-/
section
namespace Go.Proofs.YtgopkffgljiblaaGreat.Qs
set_option linter.unusedVariables false
open Go.RowKit V Go.Sort Go.Shelf D Nd

theorem heap_set {w : World} {g : Nat} {cur : Array Value} {e : TypeId} (h : w.heap[g]? = some (.cells cur e (0, 0))) (i : Nat) (v : Value) : (w.setCell ⟨g, i, none⟩ v).heap[g]? = some (.cells (cur.setIfInBounds i v) e (0, 0)) := by
  simp only [World.setCell, Array.getElem?_modify, if_true, h, Option.map_some]
  simp
theorem on_of {w : World} {base g cap : Nat} {cur : Array Value} {l : List Nt} (hb : base ≤ g) (hg : w.heap[g]? = some (.cells cur E (0, 0))) (hn : l.length ≤ cap) (hc : cap ≤ maxLen) (hs : cur.size = cap * 6)
    (hr : ∀ i (hi : i < l.length) (j : Nat), j < 6 → cur[i * 6 + j]? = (nc l[i])[j]?) : ON w base E (.slice (some ⟨g, 0, none⟩) l.length cap) l := by
  refine ⟨cellsN_length l, .inr ⟨g, cap, cur, rfl, hb, hg, hn, hc, hs, ?_⟩⟩
  apply List.ext_getElem?
  intro t
  rw [List.getElem?_take]
  by_cases ht : t < l.length * 6
  · rw [if_pos ht, Array.getElem?_toList]
    have hi : t / 6 < l.length := by omega
    have h1 := hr (t / 6) hi (t % 6) (by omega)
    have h2 := cellsN_at l (t / 6) hi (t % 6) (by omega)
    have e : t / 6 * 6 + t % 6 = t := by omega
    rw [e] at h1 h2
    rw [h1, h2]
  · rw [if_neg ht, List.getElem?_eq_none (by rw [cellsN_length]; omega)]
theorem ON.cur {w : World} {base : Nat} {v : Value} {l : List Nt} (h : ON w base E v l) : (v = .slice none 0 0 ∧ l = []) ∨ ∃ g cap cur, v = .slice (some ⟨g, 0, none⟩) l.length cap ∧ base ≤ g ∧ w.heap[g]? = some (.cells cur E (0, 0)) ∧ l.length ≤ cap ∧ cap ≤ maxLen ∧ cur.size = cap * 6 ∧ ∀ i (hi : i < l.length) (j : Nat), j < 6 → cur[i * 6 + j]? = (nc l[i])[j]? := by
  rcases h.2 with ⟨rfl, h0⟩ | ⟨g, cap, cur, rfl, hb, hg, hn, hc, hs, ht⟩
  · exact .inl ⟨rfl, List.eq_nil_of_length_eq_zero h0⟩
  · refine .inr ⟨g, cap, cur, rfl, hb, hg, hn, hc, hs, fun i hi j hj => ?_⟩
    rw [← cellsN_at l i hi j hj, ← ht, List.getElem?_take, if_pos (by omega), Array.getElem?_toList]
/-- A node that is stored into a row. -/
def putAt (w : World) (g o : Nat) (n : Nt) : World :=
  (((((w.setCell ⟨g, o, none⟩ (.int .i64 n.1.1)).setCell ⟨g, o + 1, none⟩ (.int .i64 n.1.2)).setCell ⟨g, o + 2, none⟩ (.int .i64 n.2.1.1)).setCell ⟨g, o + 3, none⟩ (.int .i64 n.2.1.2)).setCell ⟨g, o + 4, none⟩ (.int .i64 n.2.2.1)).setCell ⟨g, o + 5, none⟩ (.int .i32 n.2.2.2)
theorem putAt_below {B : Nat} {a w : World} {g : Nat} (h : Below B a w) (hg : B ≤ g) (o : Nat) (n : Nt) : Below B a (putAt w g o n) :=
  (((((h.setCell (p := ⟨g, _, none⟩) hg _).setCell (p := ⟨g, _, none⟩) hg _).setCell (p := ⟨g, _, none⟩) hg _).setCell (p := ⟨g, _, none⟩) hg _).setCell (p := ⟨g, _, none⟩) hg _).setCell (p := ⟨g, _, none⟩) hg _
theorem putAt_gb (w : World) (g o : Nat) (n : Nt) : w.grownBy (putAt w g o n) (some g) :=
  gb_trans (gb_trans (gb_trans (gb_trans (gb_trans (gb_setCell _ _ _ _) (gb_setCell _ _ _ _)) (gb_setCell _ _ _ _)) (gb_setCell _ _ _ _)) (gb_setCell _ _ _ _)) (gb_setCell _ _ _ _)
theorem heap_putAt {w : World} {g : Nat} {cur : Array Value} {e : TypeId} (h : w.heap[g]? = some (.cells cur e (0, 0))) (o : Nat) (n : Nt) : (putAt w g o n).heap[g]? = some (.cells ((((((cur.setIfInBounds o (.int .i64 n.1.1)).setIfInBounds (o + 1) (.int .i64 n.1.2)).setIfInBounds (o + 2) (.int .i64 n.2.1.1)).setIfInBounds (o + 3) (.int .i64 n.2.1.2)).setIfInBounds (o + 4) (.int .i64 n.2.2.1)).setIfInBounds (o + 5) (.int .i32 n.2.2.2)) e (0, 0)) :=
  heap_set (heap_set (heap_set (heap_set (heap_set (heap_set h _ _) _ _) _ _) _ _) _ _) _ _
theorem ON.put {w : World} {base g c m : Nat} {l : List Nt} (h : ON w base E (.slice (some ⟨g, 0, none⟩) m c) l) {k : Nat} (hk : k < l.length) (n : Nt) : ON (putAt w g (k * 6) n) base E (.slice (some ⟨g, 0, none⟩) m c) (l.set k n) := by
  rcases h.cur with ⟨e, -⟩ | ⟨g', cap, cur, e, hb, hg, hn, hc, hs, hr⟩
  · cases e
  · simp only [Value.slice.injEq, Option.some.injEq, Addr.mk.injEq, and_true] at e
    obtain ⟨rfl, rfl, rfl⟩ := e
    have := on_of (l := l.set k n) hb (heap_putAt hg (k * 6) n) (by simpa using hn) hc (by simpa using hs) (fun i hi j hj => ?_)
    · rw [List.length_set] at this; exact this
    · rw [List.length_set] at hi
      simp only [Array.getElem?_setIfInBounds, Array.size_setIfInBounds]
      rw [List.getElem_set]
      by_cases e : k = i
      · subst e
        rw [if_pos rfl]
        match j, hj with
        | 0, _ => simp; omega
        | 1, _ => simp; omega
        | 2, _ => simp; omega
        | 3, _ => simp; omega
        | 4, _ => simp; omega
        | 5, _ => simp; omega
      · rw [if_neg e, if_neg (by omega), if_neg (by omega), if_neg (by omega), if_neg (by omega), if_neg (by omega), if_neg (by omega)]
        exact hr i hi j hj
theorem ON.putTime {w : World} {base g c m : Nat} {l : List Nt} (h : ON w base E (.slice (some ⟨g, 0, none⟩) m c) l) {k : Nat} (hk : k < l.length) (z : Int) : ON (w.setCell ⟨g, k * 6 + 4, none⟩ (.int .i64 z)) base E (.slice (some ⟨g, 0, none⟩) m c) (l.set k (l[k].1, l[k].2.1, z, l[k].2.2.2)) := by
  rcases h.cur with ⟨e, -⟩ | ⟨g', cap, cur, e, hb, hg, hn, hc, hs, hr⟩
  · cases e
  · simp only [Value.slice.injEq, Option.some.injEq, Addr.mk.injEq, and_true] at e
    obtain ⟨rfl, rfl, rfl⟩ := e
    have := on_of (l := l.set k (l[k].1, l[k].2.1, z, l[k].2.2.2)) hb (heap_set hg (k * 6 + 4) (.int .i64 z)) (by simpa using hn) hc (by simpa using hs) (fun i hi j hj => ?_)
    · rw [List.length_set] at this; exact this
    · rw [List.length_set] at hi
      simp only [Array.getElem?_setIfInBounds]
      rw [List.getElem_set]
      by_cases e : k = i
      · subst e
        rw [if_pos rfl]
        by_cases e4 : j = 4
        · subst e4
          simp; omega
        · rw [if_neg (by omega), hr k hi j hj]
          match j, hj, e4 with
          | 0, _, _ => rfl
          | 1, _, _ => rfl
          | 2, _, _ => rfl
          | 3, _, _ => rfl
          | 5, _, _ => rfl
      · rw [if_neg e, if_neg (by omega)]
        exact hr i hi j hj
theorem ON.free {w : World} {base g c m : Nat} {l : List Nt} (h : ON w base E (.slice (some ⟨g, 0, none⟩) m c) l) (o : Nat) : w.frozen? ⟨g, o, none⟩ = false := by
  rcases h.cur with ⟨e, -⟩ | ⟨g', cap, cur, e, hb, hg, hn, hc, hs, hr⟩
  · cases e
  · simp only [Value.slice.injEq, Option.some.injEq, Addr.mk.injEq, and_true] at e
    obtain ⟨rfl, rfl, rfl⟩ := e
    simp [World.frozen?, hg]
theorem ON.na {w : World} {base g m c : Nat} {l : List Nt} (h : ON w base E (.slice (some ⟨g, 0, none⟩) m c) l) (k : Nat) (hk : k < l.length) : Na w g (k * 6) l[k] := by
  obtain ⟨b, o, e, hn⟩ := na_of h.r.1 k hk
  cases e
  rw [Nat.zero_add] at hn
  exact hn
end Go.Proofs.YtgopkffgljiblaaGreat.Qs
end
