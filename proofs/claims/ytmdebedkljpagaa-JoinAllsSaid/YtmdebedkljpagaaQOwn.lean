/-
  Rows of nodes of a call's own that are written, and sorted.
-/
import Derived.Test.YtmdebedkljpagaaQCat
import Derived.Test.YtmdebedkljpagaaMQAsk
import Derived.Test.YtmdebedkljpagaaDSort
import Derived.Test.YtmdebedkljpagaaSortLayN
namespace Go.Proofs.Ytmdebedkljpagaa.Qs
set_option linter.unusedVariables false
open Go.RowKit V Go.Sort Go.Shelf D Nd

theorem heap_set {w : World} {g : Nat} {cur : Array Value} {e : TypeId} (h : w.heap[g]? = some (.cells cur e (0, 0))) (i : Nat) (v : Value) : (w.setCell ⟨g, i, none⟩ v).heap[g]? = some (.cells (cur.setIfInBounds i v) e (0, 0)) := by
  simp only [World.setCell, Array.getElem?_modify, if_true, h, Option.map_some]
  simp
theorem on_of {w : World} {base g cap : Nat} {cur : Array Value} {l : List Nt} (hb : base ≤ g) (hg : w.heap[g]? = some (.cells cur E (0, 0))) (hn : l.length ≤ cap) (hc : cap ≤ maxLen) (hs : cur.size = cap * 6)
    (hr : ∀ i (hi : i < l.length) (j : Nat), j < 6 → cur[i * 6 + j]? = (nc l[i])[j]?) : ON w base E (.slice (some ⟨g, 0, none⟩) l.length cap) l := by
  refine ⟨cellsN_length l, .inr ⟨g, cap, cur, rfl, hb, hg, hn, hc, hs, ?_⟩⟩
  apply List.ext_getElem?
  intro t
  rw [List.getElem?_take]
  by_cases ht : t < l.length * 6
  · rw [if_pos ht, Array.getElem?_toList]
    have hi : t / 6 < l.length := by omega
    have h1 := hr (t / 6) hi (t % 6) (by omega)
    have h2 := cellsN_at l (t / 6) hi (t % 6) (by omega)
    have e : t / 6 * 6 + t % 6 = t := by omega
    rw [e] at h1 h2
    rw [h1, h2]
  · rw [if_neg ht, List.getElem?_eq_none (by rw [cellsN_length]; omega)]
theorem ON.cur {w : World} {base : Nat} {v : Value} {l : List Nt} (h : ON w base E v l) : (v = .slice none 0 0 ∧ l = []) ∨ ∃ g cap cur, v = .slice (some ⟨g, 0, none⟩) l.length cap ∧ base ≤ g ∧ w.heap[g]? = some (.cells cur E (0, 0)) ∧ l.length ≤ cap ∧ cap ≤ maxLen ∧ cur.size = cap * 6 ∧ ∀ i (hi : i < l.length) (j : Nat), j < 6 → cur[i * 6 + j]? = (nc l[i])[j]? := by
  rcases h.2 with ⟨rfl, h0⟩ | ⟨g, cap, cur, rfl, hb, hg, hn, hc, hs, ht⟩
  · exact .inl ⟨rfl, List.eq_nil_of_length_eq_zero h0⟩
  · refine .inr ⟨g, cap, cur, rfl, hb, hg, hn, hc, hs, fun i hi j hj => ?_⟩
    rw [← cellsN_at l i hi j hj, ← ht, List.getElem?_take, if_pos (by omega), Array.getElem?_toList]
/-- A node that is stored into a row. -/
def putAt (w : World) (g o : Nat) (n : Nt) : World :=
  (((((w.setCell ⟨g, o, none⟩ (.int .i64 n.1.1)).setCell ⟨g, o + 1, none⟩ (.int .i64 n.1.2)).setCell ⟨g, o + 2, none⟩ (.int .i64 n.2.1.1)).setCell ⟨g, o + 3, none⟩ (.int .i64 n.2.1.2)).setCell ⟨g, o + 4, none⟩ (.int .i64 n.2.2.1)).setCell ⟨g, o + 5, none⟩ (.int .i32 n.2.2.2)
theorem putAt_below {B : Nat} {a w : World} {g : Nat} (h : Below B a w) (hg : B ≤ g) (o : Nat) (n : Nt) : Below B a (putAt w g o n) :=
  (((((h.setCell (p := ⟨g, _, none⟩) hg _).setCell (p := ⟨g, _, none⟩) hg _).setCell (p := ⟨g, _, none⟩) hg _).setCell (p := ⟨g, _, none⟩) hg _).setCell (p := ⟨g, _, none⟩) hg _).setCell (p := ⟨g, _, none⟩) hg _
theorem putAt_gb (w : World) (g o : Nat) (n : Nt) : w.grownBy (putAt w g o n) (some g) :=
  gb_trans (gb_trans (gb_trans (gb_trans (gb_trans (gb_setCell _ _ _ _) (gb_setCell _ _ _ _)) (gb_setCell _ _ _ _)) (gb_setCell _ _ _ _)) (gb_setCell _ _ _ _)) (gb_setCell _ _ _ _)
theorem heap_putAt {w : World} {g : Nat} {cur : Array Value} {e : TypeId} (h : w.heap[g]? = some (.cells cur e (0, 0))) (o : Nat) (n : Nt) : (putAt w g o n).heap[g]? = some (.cells ((((((cur.setIfInBounds o (.int .i64 n.1.1)).setIfInBounds (o + 1) (.int .i64 n.1.2)).setIfInBounds (o + 2) (.int .i64 n.2.1.1)).setIfInBounds (o + 3) (.int .i64 n.2.1.2)).setIfInBounds (o + 4) (.int .i64 n.2.2.1)).setIfInBounds (o + 5) (.int .i32 n.2.2.2)) e (0, 0)) :=
  heap_set (heap_set (heap_set (heap_set (heap_set (heap_set h _ _) _ _) _ _) _ _) _ _) _ _
theorem ON.put {w : World} {base g c m : Nat} {l : List Nt} (h : ON w base E (.slice (some ⟨g, 0, none⟩) m c) l) {k : Nat} (hk : k < l.length) (n : Nt) : ON (putAt w g (k * 6) n) base E (.slice (some ⟨g, 0, none⟩) m c) (l.set k n) := by
  rcases h.cur with ⟨e, -⟩ | ⟨g', cap, cur, e, hb, hg, hn, hc, hs, hr⟩
  · cases e
  · simp only [Value.slice.injEq, Option.some.injEq, Addr.mk.injEq, and_true] at e
    obtain ⟨rfl, rfl, rfl⟩ := e
    have := on_of (l := l.set k n) hb (heap_putAt hg (k * 6) n) (by simpa using hn) hc (by simpa using hs) (fun i hi j hj => ?_)
    · rw [List.length_set] at this; exact this
    · rw [List.length_set] at hi
      simp only [Array.getElem?_setIfInBounds, Array.size_setIfInBounds]
      rw [List.getElem_set]
      by_cases e : k = i
      · subst e
        rw [if_pos rfl]
        match j, hj with
        | 0, _ => simp; omega
        | 1, _ => simp; omega
        | 2, _ => simp; omega
        | 3, _ => simp; omega
        | 4, _ => simp; omega
        | 5, _ => simp; omega
      · rw [if_neg e, if_neg (by omega), if_neg (by omega), if_neg (by omega), if_neg (by omega), if_neg (by omega), if_neg (by omega)]
        exact hr i hi j hj
theorem ON.putTime {w : World} {base g c m : Nat} {l : List Nt} (h : ON w base E (.slice (some ⟨g, 0, none⟩) m c) l) {k : Nat} (hk : k < l.length) (z : Int) : ON (w.setCell ⟨g, k * 6 + 4, none⟩ (.int .i64 z)) base E (.slice (some ⟨g, 0, none⟩) m c) (l.set k (l[k].1, l[k].2.1, z, l[k].2.2.2)) := by
  rcases h.cur with ⟨e, -⟩ | ⟨g', cap, cur, e, hb, hg, hn, hc, hs, hr⟩
  · cases e
  · simp only [Value.slice.injEq, Option.some.injEq, Addr.mk.injEq, and_true] at e
    obtain ⟨rfl, rfl, rfl⟩ := e
    have := on_of (l := l.set k (l[k].1, l[k].2.1, z, l[k].2.2.2)) hb (heap_set hg (k * 6 + 4) (.int .i64 z)) (by simpa using hn) hc (by simpa using hs) (fun i hi j hj => ?_)
    · rw [List.length_set] at this; exact this
    · rw [List.length_set] at hi
      simp only [Array.getElem?_setIfInBounds]
      rw [List.getElem_set]
      by_cases e : k = i
      · subst e
        rw [if_pos rfl]
        by_cases e4 : j = 4
        · subst e4
          simp; omega
        · rw [if_neg (by omega), hr k hi j hj]
          match j, hj, e4 with
          | 0, _, _ => rfl
          | 1, _, _ => rfl
          | 2, _, _ => rfl
          | 3, _, _ => rfl
          | 5, _, _ => rfl
      · rw [if_neg e, if_neg (by omega)]
        exact hr i hi j hj
theorem ON.free {w : World} {base g c m : Nat} {l : List Nt} (h : ON w base E (.slice (some ⟨g, 0, none⟩) m c) l) (o : Nat) : w.frozen? ⟨g, o, none⟩ = false := by
  rcases h.cur with ⟨e, -⟩ | ⟨g', cap, cur, e, hb, hg, hn, hc, hs, hr⟩
  · cases e
  · simp only [Value.slice.injEq, Option.some.injEq, Addr.mk.injEq, and_true] at e
    obtain ⟨rfl, rfl, rfl⟩ := e
    simp [World.frozen?, hg]
theorem ON.na {w : World} {base g m c : Nat} {l : List Nt} (h : ON w base E (.slice (some ⟨g, 0, none⟩) m c) l) (k : Nat) (hk : k < l.length) : Na w g (k * 6) l[k] := by
  obtain ⟨b, o, e, hn⟩ := na_of h.r.1 k hk
  cases e
  rw [Nat.zero_add] at hn
  exact hn

/-! ### Sorting -/
def encN (x : Nt) : List Value := [.int .i64 x.1.1, .int .i64 x.1.2, .int .i64 x.2.1.1, .int .i64 x.2.1.2, .int .i64 x.2.2.1, .int .i32 x.2.2.2]
theorem isAggN : ∀ w, (isAgg 44).run Try.prog w = .ok true w := Try.isAgg44
theorem sizeN : ∀ w, (Go.sizeOf 44).run Try.prog w = .ok 6 w := Try.sizeOf44
def cmpN (a b : Nt) : Int := cmpR a.1 b.1
theorem ltOf_cmpN (x y : Nt) : ltOf cmpN x y = less x.1 y.1 := ltOf_cmp x.1 y.1
theorem swo_lessN : SWO (ltOf cmpN) := {
  irrefl := fun x => by rw [ltOf_cmpN]; exact less_irr x.1
  trans := fun x y z h1 h2 => by rw [ltOf_cmpN] at *; exact less_trans h1 h2
  ntrans := fun x y z h1 h2 => by
    rw [ltOf_cmpN] at *
    rw [← Bool.not_eq_true, less_iff] at *
    omega }
theorem holds_of_on {w : World} {base g n c : Nat} {l : List Nt} (h : ON w base E (.slice (some ⟨g, 0, none⟩) n c) l) : HoldsK encN 6 w g 0 l.toArray := by
  intro j hj
  rw [size_flatK] at hj
  have hj2 : j / 6 < l.length := by simp at hj; omega
  refine ⟨?_, h.free _⟩
  rcases h.cur with ⟨e, -⟩ | ⟨g', cap, cur, e, hb, hg, hn, hc, hs, hr⟩
  · cases e
  · simp only [Value.slice.injEq, Option.some.injEq, Addr.mk.injEq, and_true] at e
    obtain ⟨rfl, rfl, rfl⟩ := e
    have h1 := hr (j / 6) hj2 (j % 6) (by omega)
    rw [show j / 6 * 6 + j % 6 = j by omega] at h1
    rw [Nat.zero_add]
    have h2 : w.cell? ⟨g, j, none⟩ = cur[j]? := by simp [World.cell?, hg]
    rw [h2, h1, get_flatK _ _ _ _ hj]
    have e : l.toArray[j / 6]! = l[j / 6] := by simp [getElem!_pos, hj2]
    rw [e]
    have h6 : j % 6 < 6 := by omega
    generalize j % 6 = t at *
    match t, h6 with
    | 0, _ => rfl
    | 1, _ => rfl
    | 2, _ => rfl
    | 3, _ => rfl
    | 4, _ => rfl
    | 5, _ => rfl
theorem sort_any (g : Nat) (l : List Nt) (c base : Nat) (w : World) (h : ON w base E (.slice (some ⟨g, 0, none⟩) l.length c) l) (hbase : base ≤ w.heap.size) (hlen : l.length ≤ 1000000) :
    Calls Try.prog 56 #[.slice (some ⟨g, 0, none⟩) l.length c, .func (.func 38) #[] #[]] w fun e w' =>
      e = .returned (.tuple #[]) ∧ ∃ m : List Nt, m.Perm l ∧ (m.Pairwise fun a b => less b.1 a.1 = false) ∧ ON w' base E (.slice (some ⟨g, 0, none⟩) l.length c) m ∧ w.grownBy w' (some g) := by
  have hg0 := (h.lt g rfl).2
  have hcon := AnyQ.slices_SortFunc Try.sortN 6 isAggN sizeN encN (fun _ => rfl) (fun x v hv => by simp [encN] at hv; rcases hv with rfl | rfl | rfl | rfl | rfl | rfl <;> rfl) cmpN swo_lessN 38 #[] g 0 c l.toArray w enters_inOrder
    (fun m os dk hdk x y => inOrder_any x y _) (holds_of_on h) hg0 (by simp; omega)
  change Calls Try.prog 56 _ _ _ at hcon
  rw [List.size_toArray] at hcon
  refine hcon.mono ?_
  rintro e w' ⟨rfl, d', n, os, ⟨hsz0, -, hperm⟩, hsrt, rfl⟩
  have hsz : d'.size = l.length := by simpa using hsz0
  have e1 : d'.extract 0 l.length = d' := by rw [← hsz]; exact Array.extract_size
  have e2 : l.toArray.extract 0 l.length = l.toArray := by
    have : l.toArray.size = l.length := List.size_toArray
    rw [← this]; exact Array.extract_size
  rw [e1, e2] at hperm
  have hl : d'.toList.length = l.length := by simpa using hsz
  refine ⟨rfl, d'.toList, hperm, ?_, ?_, ?_⟩
  · rw [List.pairwise_iff_getElem]
    intro i j hi hj hij
    have hi' : i < d'.size := by simpa using hi
    have hj' : j < d'.size := by simpa using hj
    have := hsrt i j (Nat.zero_le _) hij (by omega)
    rw [getElem!_pos d' j hj', getElem!_pos d' i hi', ltOf_cmpN] at this
    simpa using this
  · rcases h.cur with ⟨e, -⟩ | ⟨g', cap, cur, e, hb, hg, hn, hc, hs, hr⟩
    · cases e
    · simp only [Value.slice.injEq, Option.some.injEq, Addr.mk.injEq, and_true, true_and] at e
      obtain ⟨rfl, rfl⟩ := e
      have hH := holdsK_sortWorldK_c encN 6 w g 0 l.toArray d' n os (holds_of_on h) hg0 (by simpa using hsz)
      obtain ⟨cur2, h1, h2⟩ : ∃ cur2, (sortWorldK encN 6 w g 0 n d' os).heap[g]? = some (.cells cur2 E (0, 0)) ∧ cur2.size = cur.size := by
        refine ⟨putCells id 0 (flatK encN 6 d') cur, ?_, by simp [putCells]⟩
        unfold sortWorldK putRowK putRow mapBlock
        show ((w.heap.modify g _) ++ os)[g]? = _
        rw [Array.getElem?_append_left (by simpa using hg0), Array.getElem?_modify, if_pos rfl, hg]
        rfl
      have := on_of (l := d'.toList) hb h1 (by omega) hc (by rw [h2]; exact hs) (fun i hi j hj => ?_)
      · rw [hl] at this; exact this
      · have hi' : i < d'.size := by simpa using hi
        have h3 := (HoldsK.cell hH (i := i) (c := j) hi' hj).1
        have h4 : (sortWorldK encN 6 w g 0 n d' os).cell? ⟨g, i * 6 + j, none⟩ = cur2[i * 6 + j]? := by simp [World.cell?, h1]
        simp only [Nat.zero_add] at h3
        rw [← h4, h3, getElem!_pos d' i hi']
        simp only [Array.getElem_toList]
        match j, hj with
        | 0, _ => rfl
        | 1, _ => rfl
        | 2, _ => rfl
        | 3, _ => rfl
        | 4, _ => rfl
        | 5, _ => rfl
  · unfold sortWorldK putRowK putRow mapBlock
    refine ⟨rfl, rfl, rfl, ?_, fun b hb hne => ?_⟩
    · show _ ≤ ((w.heap.modify g _) ++ os).size
      simp
    · show ((w.heap.modify g _) ++ os)[b]? = _
      rw [Array.getElem?_append_left (by simpa using hb), Array.getElem?_modify, if_neg (by intro e; exact hne (by rw [e]))]
theorem sort_none (c : Nat) (fv : Value) (w : World) : Calls Try.prog 56 #[.slice none 0 c, fv] w fun e w' => e = .returned (.tuple #[]) ∧ w' = w := by
  have h := AnyF.slices_SortFunc_none (P := Try.prog) Try.sortN none c fv w
  exact h
end Go.Proofs.Ytmdebedkljpagaa.Qs
