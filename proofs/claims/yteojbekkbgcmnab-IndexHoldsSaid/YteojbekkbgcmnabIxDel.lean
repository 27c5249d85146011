/-
  Rows of nodes of the call's own that are cut; the library's IndexFunc, exactly, and DeleteFunc, at nodes.
-/
import Derived.Test.YteojbekkbgcmnabQOwn
import Derived.Test.YteojbekkbgcmnabMNMem
namespace Go.Proofs.Yteojbekkbgcmnab.Un
set_option linter.unusedVariables false
open Go.RowKit V Go.Sort D Nd Qs

/-! ### Rows that are cut -/
theorem heap_setCells {g : Nat} {e : TypeId} : ∀ (vs : List Value) (o : Nat) {w : World} {cur : Array Value}, w.heap[g]? = some (.cells cur e (0, 0)) →
    ∃ cur', (w.setCells g o vs).heap[g]? = some (.cells cur' e (0, 0)) ∧ cur'.size = cur.size ∧ ∀ t, t < o → cur'[t]? = cur[t]?
  | [], o, w, cur, h => ⟨cur, h, rfl, fun _ _ => rfl⟩
  | v :: vs, o, w, cur, h => by
    obtain ⟨cur', h1, h2, h3⟩ := heap_setCells vs (o + 1) (heap_set h o v)
    refine ⟨cur', h1, by rw [h2]; simp, fun t ht => ?_⟩
    rw [h3 t (by omega), Array.getElem?_setIfInBounds_ne (by omega)]
theorem gb_setCells (g : Nat) : ∀ (vs : List Value) (o : Nat) (w : World), w.grownBy (w.setCells g o vs) (some g)
  | [], o, w => gb_refl _ _
  | v :: vs, o, w => gb_trans (gb_setCell _ _ _ _) (gb_setCells g vs (o + 1) _)
theorem _root_.Go.Proofs.Yteojbekkbgcmnab.Qs.ON.cut {w : World} {base g c m : Nat} {l : List Nt} (h : ON w base Qs.E (.slice (some ⟨g, 0, none⟩) m c) l) (k : Nat) (hk : k ≤ l.length) : ON w base Qs.E (.slice (some ⟨g, 0, none⟩) k c) (l.take k) := by
  rcases h.cur with ⟨e, -⟩ | ⟨g', cap, cur, e, hb, hg, hn, hc, hs, hr⟩
  · cases e
  · simp only [Value.slice.injEq, Option.some.injEq, Addr.mk.injEq, and_true] at e
    obtain ⟨rfl, rfl, rfl⟩ := e
    have hl : (l.take k).length = k := by rw [List.length_take]; omega
    have := on_of (l := l.take k) (base := base) (g := g) (cap := c) (cur := cur) hb hg (by omega) hc hs (fun i hi j hj => by rw [List.getElem_take]; exact hr i (by omega) j hj)
    rwa [hl] at this
theorem _root_.Go.Proofs.Yteojbekkbgcmnab.Qs.ON.clears {w : World} {base g c m : Nat} {l : List Nt} (h : ON w base Qs.E (.slice (some ⟨g, 0, none⟩) m c) l) (k : Nat) (hk : k ≤ l.length) (vs : List Value) : ON (w.setCells g (k * 6) vs) base Qs.E (.slice (some ⟨g, 0, none⟩) k c) (l.take k) := by
  rcases h.cur with ⟨e, -⟩ | ⟨g', cap, cur, e, hb, hg, hn, hc, hs, hr⟩
  · cases e
  · simp only [Value.slice.injEq, Option.some.injEq, Addr.mk.injEq, and_true] at e
    obtain ⟨rfl, rfl, rfl⟩ := e
    have hl : (l.take k).length = k := by rw [List.length_take]; omega
    obtain ⟨cur', h1, h2, h3⟩ := heap_setCells vs (k * 6) hg
    have := on_of (l := l.take k) (base := base) (g := g) (cap := c) (cur := cur') hb h1 (by omega) hc (by rw [h2]; exact hs) (fun i hi j hj => by rw [List.getElem_take, h3 _ (by omega)]; exact hr i (by omega) j hj)
    rwa [hl] at this
theorem run_clearN (w : World) {base g n c0 : Nat} {l : List Nt} (h : ON w base Qs.E (.slice (some ⟨g, 0, none⟩) n c0) l) (k c : Nat) (hk : k < l.length) : ∃ vs, ∀ ty, (Builtin.clear_ #[22] ty #[.slice (some ⟨g, k * 6, none⟩) (l.length - k) c]).run Try.prog w = .ok (.tuple #[]) (w.setCells g (k * 6) vs) := by
  have hzc : (Builtin.zeroCells (Value.cells zeroNv) (l.length - k)).toList.length = (l.length - k) * 6 := by simp [Builtin.zeroCells, Value.cells]
  have hzo : ∀ v ∈ (Builtin.zeroCells (Value.cells zeroNv) (l.length - k)).toList, v.oneCell' = true := by
    intro v hv
    simp [Builtin.zeroCells, Value.cells] at hv
    obtain ⟨j, -, rfl⟩ := hv
    have h6 : j % 6 < 6 := Nat.mod_lt _ (by decide)
    generalize j % 6 = t at *
    match t, h6 with
    | 0, _ => rfl
    | 1, _ => rfl
    | 2, _ => rfl
    | 3, _ => rfl
    | 4, _ => rfl
    | 5, _ => rfl
  refine ⟨(Builtin.zeroCells (Value.cells zeroNv) (l.length - k)).toList, fun ty => ?_⟩
  have hcell : ∀ j, j < l.length * 6 → (w.cell? ⟨g, j, none⟩).isSome = true ∧ w.frozen? ⟨g, j, none⟩ = false := by
    intro j hj
    refine ⟨?_, h.free _⟩
    rcases h.cur with ⟨e, -⟩ | ⟨g', cap, cur, e, hb, hg, hn, hc, hs, hr⟩
    · cases e
    · simp only [Value.slice.injEq, Option.some.injEq, Addr.mk.injEq, and_true] at e
      obtain ⟨rfl, rfl, rfl⟩ := e
      have : w.cell? ⟨g, j, none⟩ = cur[j]? := by simp [World.cell?, hg]
      rw [this, Array.getElem?_eq_getElem (by omega)]
      rfl
  have hst := run_storeCells_cells (P := Try.prog) g (k * 6) (Builtin.zeroCells (Value.cells zeroNv) (l.length - k)).toList 0 w
    (fun j hj => by rw [Nat.add_zero]; exact (hcell _ (by omega)).1) (fun j hj => by rw [Nat.add_zero]; exact (hcell _ (by omega)).2) hzo
  simp only [Nat.add_zero] at hst
  obtain ⟨m, hm⟩ : ∃ m, l.length - k = m + 1 := ⟨l.length - k - 1, by omega⟩
  rw [hm] at hst ⊢
  have hv := Try.zeroValue37
  simp [Builtin.clear_, run_underlying Try.underlying22, hv, hst]

/-! ### Where the first one stands -/
def posI (p : Nt → Bool) (l : List Nt) : Int := if l.any p then ((l.takeWhile fun x => !p x).length : Int) else -1
theorem at_parts3 {α : Type} {p : List α} {i : Nat} (hi : i < p.length) : p = p.take i ++ p[i] :: p.drop (i + 1) := by rw [← List.drop_eq_getElem_cons hi, List.take_append_drop]
theorem pos_here {p : Nt → Bool} {l : List Nt} {k : Nat} (hk : k < l.length) (h : p l[k] = true) (hn : ∀ j (hj : j < l.length), j < k → p l[j] = false) : posI p l = (k : Int) := by
  unfold posI
  rw [if_pos (any_here hk h)]
  have e : l.takeWhile (fun x => !p x) = l.take k := by
    conv => lhs; rw [at_parts3 hk]
    rw [List.takeWhile_append_of_pos (fun x hx => ?_), List.takeWhile_cons, if_neg (by rw [h]; decide), List.append_nil]
    obtain ⟨i, hi, rfl⟩ := List.mem_iff_getElem.1 hx
    rw [List.length_take] at hi
    rw [List.getElem_take, hn i (by omega) (by omega)]
    rfl
  rw [e, List.length_take]
  omega
theorem pos_away {p : Nt → Bool} {l : List Nt} (h : ∀ j (hj : j < l.length), p l[j] = false) : posI p l = -1 := by
  unfold posI
  rw [any_away h]
  rfl
end Go.Proofs.Yteojbekkbgcmnab.Un
