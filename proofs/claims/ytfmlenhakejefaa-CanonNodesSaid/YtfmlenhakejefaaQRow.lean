/-
  Rows of nodes: what a slice reads as, what a call has made itself, append, parts.
-/
import Derived.Test.YtfmlenhakejefaaMGen
import Derived.Test.YtfmlenhakejefaaNMem
import Derived.OwnWalkIn
import Derived.Laws.AppendOwnNone
namespace Go.Proofs.Ytfmlenhakejefaa.Qs
set_option linter.unusedVariables false
open Go.RowKit V D Nd

/-- The six cells of each node, one behind the other. -/
def cellsN : List Nt → List Value
  | [] => []
  | n :: t => .int .i64 n.1.1 :: .int .i64 n.1.2 :: .int .i64 n.2.1.1 :: .int .i64 n.2.1.2 :: .int .i64 n.2.2.1 :: .int .i32 n.2.2.2 :: cellsN t
theorem cellsN_length : ∀ l : List Nt, (cellsN l).length = l.length * 6
  | [] => rfl
  | n :: t => by simp only [cellsN, List.length_cons, cellsN_length t]; omega
theorem cellsN_append : ∀ l m : List Nt, cellsN (l ++ m) = cellsN l ++ cellsN m
  | [], m => rfl
  | n :: t, m => by rw [List.cons_append, cellsN, cellsN, cellsN_append t m]; rfl
theorem cellsN_at : ∀ (l : List Nt) (i : Nat) (h : i < l.length) (j : Nat), j < 6 → (cellsN l)[i * 6 + j]? = (nc l[i])[j]?
  | n :: t, 0, h, j, hj => by
    match j, hj with
    | 0, _ => rfl
    | 1, _ => rfl
    | 2, _ => rfl
    | 3, _ => rfl
    | 4, _ => rfl
    | 5, _ => rfl
  | n :: t, i + 1, h, j, hj => by
    have := cellsN_at t i (by simpa using h) j hj
    rw [show (i + 1) * 6 + j = (i * 6 + j) + 6 by omega]
    exact this
theorem cellsN_one {l : List Nt} {u : Value} (h : u ∈ cellsN l) : u.oneCell' = true := by
  induction l with
  | nil => simp [cellsN] at h
  | cons n t ih =>
    simp only [cellsN, List.mem_cons] at h
    rcases h with rfl | rfl | rfl | rfl | rfl | rfl | h
    · rfl
    · rfl
    · rfl
    · rfl
    · rfl
    · rfl
    · exact ih h
theorem cellsN_take : ∀ (l : List Nt) (k : Nat), (cellsN l).take (k * 6) = cellsN (l.take k)
  | [], k => by simp [cellsN]
  | n :: t, 0 => by simp [cellsN]
  | n :: t, k + 1 => by
    rw [show (k + 1) * 6 = k * 6 + 1 + 1 + 1 + 1 + 1 + 1 by omega, cellsN]
    simp only [List.take_succ_cons]
    rw [cellsN_take t k]
    rfl

/-- The cells behind an address hold the nodes l. -/
def RowN (w : World) (a : Option Addr) (l : List Nt) : Prop :=
  l = [] ∨ ∃ b o, a = some ⟨b, o, none⟩ ∧ ∀ i (h : i < l.length) (j : Nat), j < 6 → w.cell? ⟨b, o + (i * 6 + j), none⟩ = (nc l[i])[j]?
theorem RowN.nil (w : World) (a : Option Addr) : RowN w a [] := .inl rfl
theorem RowN.of_heap {w w' : World} {a : Option Addr} {l : List Nt} (h : RowN w a l) (hh : ∀ b, (∃ o, a = some ⟨b, o, none⟩) → b < w.heap.size → w'.heap[b]? = w.heap[b]?) : RowN w' a l := by
  rcases h with h | ⟨b, o, rfl, h⟩
  · exact .inl h
  · refine .inr ⟨b, o, rfl, fun i hi j hj => ?_⟩
    have h1 := h i hi 0 (by omega)
    have e := hh b ⟨o, rfl⟩ (lt_of_cell h1)
    rw [World.cell?_of_block (w := w) e]
    exact h i hi j hj
theorem RowN.keep {w w' : World} {a : Option Addr} {l : List Nt} (h : RowN w a l) (hb : Below w.heap.size w w') : RowN w' a l := h.of_heap fun b _ hl => hb.block b hl
theorem RowN.keepB {w w' : World} {a : Option Addr} {l : List Nt} {B : Nat} (h : RowN w a l) (hb : Below B w w') (hB : w.heap.size ≤ B) : RowN w' a l := h.of_heap fun b _ hl => hb.block b (Nat.lt_of_lt_of_le hl hB)
theorem RowN.drew {w : World} {a : Option Addr} {l : List Nt} (h : RowN w a l) : RowN w.drew a l := h.of_heap fun _ _ _ => rfl
theorem RowN.drewN {w : World} {a : Option Addr} {l : List Nt} (h : RowN w a l) (n : Nat) : RowN (w.drewN n) a l := h.of_heap fun _ _ _ => rfl
theorem RowN.gb {w w' : World} {a : Option Addr} {l : List Nt} {r : Option Nat} (h : RowN w a l) (hg : w.grownBy w' r) (hne : ∀ b o, a = some ⟨b, o, none⟩ → some b ≠ r) : RowN w' a l :=
  h.of_heap fun b ⟨o, e⟩ hl => hg.block b hl (hne b o e)
theorem RowN.take {w : World} {a : Option Addr} {l : List Nt} (h : RowN w a l) (n : Nat) : RowN w a (l.take n) := by
  rcases h with rfl | ⟨b, o, rfl, hc⟩
  · exact .inl (by simp)
  · refine .inr ⟨b, o, rfl, fun i hi j hj => ?_⟩
    rw [List.length_take] at hi
    have := hc i (by omega) j hj
    simpa using this
theorem RowN.drop {w : World} {b o : Nat} {l : List Nt} (h : RowN w (some ⟨b, o, none⟩) l) (n : Nat) (hn : n ≤ l.length) : RowN w (some ⟨b, o + n * 6, none⟩) (l.drop n) := by
  rcases h with rfl | ⟨b', o', e, hc⟩
  · exact .inl (by simp)
  · cases e
    refine .inr ⟨b, o + n * 6, rfl, fun i hi j hj => ?_⟩
    rw [List.length_drop] at hi
    rw [List.getElem_drop, show o + n * 6 + (i * 6 + j) = o + ((n + i) * 6 + j) by omega]
    exact hc (n + i) (by omega) j hj
/-- A node of the row, cell by cell. -/
theorem RowN.get {w : World} {a : Option Addr} {l : List Nt} (h : RowN w a l) (k : Nat) (hk : k < l.length) :
    ∃ b o, a = some ⟨b, o, none⟩ ∧ w.cell? ⟨b, o + k * 6, none⟩ = some (.int .i64 l[k].1.1) ∧ w.cell? ⟨b, o + k * 6 + 1, none⟩ = some (.int .i64 l[k].1.2) ∧ w.cell? ⟨b, o + k * 6 + 2, none⟩ = some (.int .i64 l[k].2.1.1) ∧
      w.cell? ⟨b, o + k * 6 + 3, none⟩ = some (.int .i64 l[k].2.1.2) ∧ w.cell? ⟨b, o + k * 6 + 4, none⟩ = some (.int .i64 l[k].2.2.1) ∧ w.cell? ⟨b, o + k * 6 + 5, none⟩ = some (.int .i32 l[k].2.2.2) := by
  rcases h with rfl | ⟨b, o, rfl, hc⟩
  · simp at hk
  · exact ⟨b, o, rfl, hc k hk 0 (by omega), hc k hk 1 (by omega), hc k hk 2 (by omega), hc k hk 3 (by omega), hc k hk 4 (by omega), hc k hk 5 (by omega)⟩
theorem rowN_news {w : World} {b o : Nat} {m : List Nt} (h : RowN w (some ⟨b, o, none⟩) m) : ∀ j u, (cellsN m)[j]? = some u → w.cell? ((⟨b, o, none⟩ : Addr).add j) = some u := by
  intro j u hj
  have hjl : j < m.length * 6 := by
    have := (List.getElem?_eq_some_iff.1 hj).1
    rwa [cellsN_length] at this
  have hm : m ≠ [] := by rintro rfl; simp at hjl
  obtain ⟨b', o', e, hc⟩ := h.resolve_left hm
  cases e
  have e2 : (⟨b, o, none⟩ : Addr).add j = ⟨b, o + j, none⟩ := by unfold Addr.add; split <;> simp_all
  rw [e2]
  have hi : j / 6 < m.length := by omega
  have h1 := hc (j / 6) hi (j % 6) (by omega)
  have k1 := cellsN_at m (j / 6) hi (j % 6) (by omega)
  have ej : j / 6 * 6 + j % 6 = j := by omega
  rw [ej] at h1 k1
  rw [h1, ← k1, hj]

/-! ### Rows that a call has made itself -/
def ON (w : World) (base : Nat) (E : TypeId) (v : Value) (l : List Nt) : Prop := w.ownsRow base E 6 v l.length (cellsN l)
section
variable {w w' : World} {base : Nat} {E : TypeId} {v : Value} {l : List Nt}
theorem ON.nil (w : World) (base : Nat) (E : TypeId) : ON w base E (.slice none 0 0) [] := World.ownsRow_nil w base _ 6
theorem ON.row (h : ON w base E v l) : ∃ a c, v = .slice a l.length c ∧ RowN w a l ∧ (a = none → c = 0 ∧ l = []) ∧ l.length ≤ c ∧ (∀ x, a = some x → x = ⟨x.block, 0, none⟩ ∧ v.ownBlock = some x.block ∧ base ≤ x.block ∧ x.block < w.heap.size) := by
  rcases h.2 with ⟨rfl, h0⟩ | ⟨g, cap, cur, rfl, hb, hg, hn, hc, hs, ht⟩
  · have : l = [] := List.eq_nil_of_length_eq_zero h0
    subst this
    exact ⟨none, 0, rfl, .inl rfl, fun _ => ⟨rfl, rfl⟩, Nat.le_refl _, fun x hx => by cases hx⟩
  · refine ⟨some ⟨g, 0, none⟩, cap, rfl, ?_, (fun h => by cases h), hn, fun x hx => ?_⟩
    · by_cases hl : l = []
      · exact .inl hl
      · refine .inr ⟨g, 0, rfl, fun i hi j hj => ?_⟩
        have c1 := World.ownsRow.cellAt h (i * 6 + j) (by omega)
        rw [Nat.zero_add, c1]
        exact cellsN_at l i hi j hj
    · cases hx
      exact ⟨rfl, rfl, hb, (Array.getElem?_eq_some_iff.1 hg).1⟩
theorem ON.keep {row : Option Nat} (h : ON w base E v l) (hg : w.grownBy w' row) (hne : v.ownBlock = none ∨ v.ownBlock ≠ row) : ON w' base E v l := World.ownsRow.kept h hg hne
theorem ON.below (h : ON w base E v l) (hb : Below w.heap.size w w') : ON w' base E v l := h.keep (gb_below hb none) (by rcases v.ownBlock with _ | x <;> simp)
theorem ON.lt (h : ON w base E v l) : ∀ x, v.ownBlock = some x → base ≤ x ∧ x < w.heap.size := World.ownsRow.lt h
theorem ON.mono {base' : Nat} (h : ON w base E v l) (hb : ∀ k, v.ownBlock = some k → base' ≤ k) : ON w base' E v l := by
  refine ⟨h.1, ?_⟩
  rcases h.2 with hn | ⟨g, cap, cur, rfl, hbg, rest⟩
  · exact .inl hn
  · exact .inr ⟨g, cap, cur, rfl, hb g rfl, rest⟩
theorem ON.r {a : Option Addr} {n c : Nat} (h : ON w base E (.slice a n c) l) : RowN w a l ∧ n = l.length ∧ n ≤ c ∧ (a = none → c = 0) := by
  obtain ⟨a', c', e, hr, hn, hc, -⟩ := h.row
  simp only [Value.slice.injEq] at e
  obtain ⟨rfl, rfl, rfl⟩ := e
  exact ⟨hr, rfl, hc, fun h => (hn h).1⟩
/-- The object of a row of the call's own. -/
theorem ON.obj (h : ON w base E v l) : ∀ x, v.ownBlock = some x → ∃ vs, w.heap[x]? = some (.cells vs E (0, 0)) := by
  rcases h.2 with ⟨rfl, h0⟩ | ⟨g, cap, cur, rfl, hb, hg, hn, hc, hs, ht⟩
  · intro x hx; cases hx
  · intro x hx
    cases hx
    exact ⟨_, hg⟩
end

abbrev zeroNv : Value := .agg #[.int .i64 0, .int .i64 0, .int .i64 0, .int .i64 0, .int .i64 0, .int .i32 0]
/-- append of nodes to a row of the call's own; from nil, or from any address. -/
theorem run_appN {P : Program} {w : World} {base : Nat} {T E : TypeId} (hT : P.underlying T = some (.slice E)) (hinfo : (P.info? E).map (fun i => (i.zero, i.size, i.bytes)) = some (some zeroNv, 6, 48))
    {v : Value} {l : List Nt} (h : ON w base E v l) (ty : TypeId) (a : Option Addr) (m : List Nt) (c : Nat) (hrow : RowN w a m) (hnil : a = none → c = 0)
    (hlen : l.length + m.length ≤ 1000000000000) (hbase : base ≤ w.heap.size) :
    ∃ v' w', (Builtin.append_ #[T, T] ty #[v, .slice a m.length c]).run P w = .ok v' w' ∧ ON w' base E v' (l ++ m) ∧ w.grownBy w' v.ownBlock ∧ G.Grew w v v' := by
  obtain ⟨i, hi, hz0, hz1, hz2⟩ := G.info_of hinfo
  rcases a with _ | ad
  · have hm : m = [] := by
      rcases hrow with hm | ⟨_, _, e, _⟩
      · exact hm
      · cases e
    subst hm
    obtain rfl := hnil rfl
    exact ⟨v, w, run_append_owned_none w base _ ty _ i 6 hT hi v _ _ h, by simpa using h, gb_refl _ _, .inl rfl⟩
  · have hrow' : ∀ j u, (cellsN m)[j]? = some u → w.cell? (ad.add j) = some u := by
      rcases hrow with rfl | ⟨b, o, e, hc⟩
      · intro j u hj; simp [cellsN] at hj
      · cases e
        exact rowN_news (.inr ⟨b, o, rfl, hc⟩)
    obtain ⟨v', w', hr, ho, hg, _, hgr⟩ := run_append_own_at (P := P) w base T ty E i _ 6 48 hT hi hz0 hz1 hz2 rfl (by omega) v _ _ h ad m.length c (cellsN m) (cellsN_length m) hrow'
      (fun u hu => cellsN_one hu) (by unfold maxLen; omega) (by omega) hbase
    refine ⟨v', w', hr, ?_, hg, hgr⟩
    unfold ON
    rw [List.length_append, cellsN_append]
    exact ho
theorem wpList_appN {P : Program} {w : World} {ops : Array Oper} {rest : List Oper} {x : Oper} {a : Act} {Q : Exit → Act → World → Prop} (hgd : x.guard = none) (s y : Operand) (T : TypeId)
    (ho : x.op = .call { callee := .builtin .append, args := #[s, y], argTypes := #[T, T] })
    {base : Nat} {E : TypeId} (hT : P.underlying T = some (.slice E)) (hinfo : (P.info? E).map (fun i => (i.zero, i.size, i.bytes)) = some (some zeroNv, 6, 48))
    (v : Value) (l : List Nt) (hs : a.eval s = v) (h : ON w base E v l) (ad : Option Addr) (m : List Nt) (c n : Nat) (hn : n = m.length) (hx : a.eval y = .slice ad n c) (hrow : RowN w ad m) (hnil : ad = none → c = 0)
    (hlen : l.length + m.length ≤ 1000000000000) (hbase : base ≤ w.heap.size)
    (hk : ∀ v' w', ON w' base E v' (l ++ m) → w.grownBy w' v.ownBlock → G.Grew w v v' → wpList P ops Q rest (a.put x.dst v') w') : wpList P ops Q (x :: rest) a w := by
  subst hn
  obtain ⟨v', w', hr, h2, h3, h4⟩ := run_appN hT hinfo h x.type ad m c hrow hnil hlen hbase
  refine wpList_plain hgd fun K hK => ?_
  unfold Oper.wp execOp
  simp only [ho, resolve, invoke, builtin, Sem.run_bind, Sem.run_pure, Result.andThen_ok, List.map_toArray, List.map_cons, List.map_nil, hs, hx, hr]
  exact hK _ _ (hk v' w' h2 h3 h4)
/-- Some new nodes that are written out. -/
theorem RowN.lit (w : World) (l : List Nt) (C : Array Value) (t : TypeId) (fr : Nat × Nat) (hC : C.toList = cellsN l) : RowN (w.alloc (.cells C t fr)) (some ⟨w.heap.size, 0, none⟩) l := by
  by_cases hl : l = []
  · exact .inl hl
  have hh : (w.alloc (.cells C t fr)).heap[w.heap.size]? = some (.cells C t fr) := by show (w.heap.push _)[w.heap.size]? = _; simp
  have hcell : ∀ j, (w.alloc (.cells C t fr)).cell? ⟨w.heap.size, j, none⟩ = C[j]? := fun j => by
    simp only [World.cell?, hh]
    rw [if_neg (by simp)]
  refine .inr ⟨_, _, rfl, fun i hi j hj => ?_⟩
  rw [Nat.zero_add, hcell, ← Array.getElem?_toList, hC]
  exact cellsN_at l i hi j hj
end Go.Proofs.Ytfmlenhakejefaa.Qs
