/-
  Rows of pairs of a number and a string: what a slice reads as, what a call has made itself, append, parts.
-/
import Derived.Test.YtmmcnpcijeahcaaGen
import Derived.Test.YtmmcnpcijeahcaaJPure
import Derived.OwnWalkIn
namespace Go.Proofs.Ytmmcnpcijeahcaa.J
set_option linter.unusedVariables false
open Go.RowKit V

/-- The two cells of each dot, one behind the other. -/
def cellsP : List Pr → List Value
  | [] => []
  | d :: t => .int .i64 d.1 :: .string d.2 :: cellsP t
theorem cellsP_length : ∀ l : List Pr, (cellsP l).length = l.length * 2
  | [] => rfl
  | d :: t => by rw [cellsP, List.length_cons, List.length_cons, cellsP_length t, List.length_cons]; omega
theorem cellsP_append : ∀ l m : List Pr, cellsP (l ++ m) = cellsP l ++ cellsP m
  | [], m => rfl
  | d :: t, m => by rw [List.cons_append, cellsP, cellsP, cellsP_append t m]; rfl
theorem cellsP_at : ∀ (l : List Pr) (i : Nat) (h : i < l.length), (cellsP l)[i * 2]? = some (.int .i64 l[i].1) ∧ (cellsP l)[i * 2 + 1]? = some (.string l[i].2)
  | d :: t, 0, h => ⟨rfl, rfl⟩
  | d :: t, i + 1, h => by
    have := cellsP_at t i (by simpa using h)
    rw [show (i + 1) * 2 = i * 2 + 2 by omega, show i * 2 + 2 + 1 = (i * 2 + 1) + 2 by omega]
    exact this
theorem cellsP_one {l : List Pr} {u : Value} (h : u ∈ cellsP l) : u.oneCell' = true := by
  induction l with
  | nil => simp [cellsP] at h
  | cons d t ih =>
    rw [cellsP, List.mem_cons, List.mem_cons] at h
    rcases h with rfl | rfl | h
    · rfl
    · rfl
    · exact ih h
theorem cellsP_take : ∀ (l : List Pr) (k : Nat), (cellsP l).take (k * 2) = cellsP (l.take k)
  | [], k => by simp [cellsP]
  | d :: t, 0 => by simp [cellsP]
  | d :: t, k + 1 => by
    rw [show (k + 1) * 2 = k * 2 + 1 + 1 by omega, cellsP, List.take_succ_cons, List.take_succ_cons, cellsP_take t k, List.take_succ_cons]
    rfl

/-- The cells behind an address hold the pairs l. -/
def RowP (w : World) (a : Option Addr) (l : List Pr) : Prop :=
  l = [] ∨ ∃ b o, a = some ⟨b, o, none⟩ ∧ ∀ i (h : i < l.length), w.cell? ⟨b, o + i * 2, none⟩ = some (.int .i64 l[i].1) ∧ w.cell? ⟨b, o + (i * 2 + 1), none⟩ = some (.string l[i].2)
theorem RowP.nil (w : World) (a : Option Addr) : RowP w a [] := .inl rfl
theorem RowP.of_heap {w w' : World} {a : Option Addr} {l : List Pr} (h : RowP w a l) (hh : ∀ b, (∃ o, a = some ⟨b, o, none⟩) → b < w.heap.size → w'.heap[b]? = w.heap[b]?) : RowP w' a l := by
  rcases h with h | ⟨b, o, rfl, h⟩
  · exact .inl h
  · refine .inr ⟨b, o, rfl, fun i hi => ?_⟩
    obtain ⟨h1, h2⟩ := h i hi
    have e := hh b ⟨o, rfl⟩ (lt_of_cell h1)
    exact ⟨by rw [World.cell?_of_block (w := w) e]; exact h1, by rw [World.cell?_of_block (w := w) e]; exact h2⟩
theorem RowP.keep {w w' : World} {a : Option Addr} {l : List Pr} (h : RowP w a l) (hb : Below w.heap.size w w') : RowP w' a l := h.of_heap fun b _ hl => hb.block b hl
theorem RowP.keepB {w w' : World} {a : Option Addr} {l : List Pr} {B : Nat} (h : RowP w a l) (hb : Below B w w') (hB : w.heap.size ≤ B) : RowP w' a l := h.of_heap fun b _ hl => hb.block b (Nat.lt_of_lt_of_le hl hB)
theorem RowP.drew {w : World} {a : Option Addr} {l : List Pr} (h : RowP w a l) : RowP w.drew a l := h.of_heap fun _ _ _ => rfl
theorem RowP.drewN {w : World} {a : Option Addr} {l : List Pr} (h : RowP w a l) (n : Nat) : RowP (w.drewN n) a l := h.of_heap fun _ _ _ => rfl
theorem RowP.gb {w w' : World} {a : Option Addr} {l : List Pr} {r : Option Nat} (h : RowP w a l) (hg : w.grownBy w' r) (hne : ∀ b o, a = some ⟨b, o, none⟩ → some b ≠ r) : RowP w' a l :=
  h.of_heap fun b ⟨o, e⟩ hl => hg.block b hl (hne b o e)
theorem RowP.take {w : World} {a : Option Addr} {l : List Pr} (h : RowP w a l) (n : Nat) : RowP w a (l.take n) := by
  rcases h with rfl | ⟨b, o, rfl, hc⟩
  · exact .inl (by simp)
  · refine .inr ⟨b, o, rfl, fun i hi => ?_⟩
    rw [List.length_take] at hi
    have := hc i (by omega)
    simpa using this
theorem RowP.drop {w : World} {b o : Nat} {l : List Pr} (h : RowP w (some ⟨b, o, none⟩) l) (n : Nat) (hn : n ≤ l.length) : RowP w (some ⟨b, o + n * 2, none⟩) (l.drop n) := by
  rcases h with rfl | ⟨b', o', e, hc⟩
  · exact .inl (by simp)
  · cases e
    refine .inr ⟨b, o + n * 2, rfl, fun i hi => ?_⟩
    rw [List.length_drop] at hi
    obtain ⟨h1, h2⟩ := hc (n + i) (by omega)
    rw [List.getElem_drop, show o + n * 2 + i * 2 = o + (n + i) * 2 by omega, show o + n * 2 + (i * 2 + 1) = o + ((n + i) * 2 + 1) by omega]
    exact ⟨h1, h2⟩
theorem rowP_news {w : World} {b o : Nat} {m : List Pr} (h : RowP w (some ⟨b, o, none⟩) m) : ∀ j u, (cellsP m)[j]? = some u → w.cell? ((⟨b, o, none⟩ : Addr).add j) = some u := by
  intro j u hj
  have hjl : j < m.length * 2 := by
    have := (List.getElem?_eq_some_iff.1 hj).1
    rwa [cellsP_length] at this
  have hm : m ≠ [] := by rintro rfl; simp at hjl
  obtain ⟨b', o', e, hc⟩ := h.resolve_left hm
  cases e
  have e2 : (⟨b, o, none⟩ : Addr).add j = ⟨b, o + j, none⟩ := by unfold Addr.add; split <;> simp_all
  rw [e2]
  have hi : j / 2 < m.length := by omega
  obtain ⟨h1, h2⟩ := hc (j / 2) hi
  obtain ⟨k1, k2⟩ := cellsP_at m (j / 2) hi
  rcases Nat.mod_two_eq_zero_or_one j with hj0 | hj1
  · have ej : j / 2 * 2 = j := by omega
    rw [ej] at h1 k1
    rw [h1, ← k1, hj]
  · have ej : j / 2 * 2 + 1 = j := by omega
    rw [ej] at h2 k2
    rw [h2, ← k2, hj]

/-! ### Rows that a call has made itself -/
def OP (w : World) (base : Nat) (E : TypeId) (v : Value) (l : List Pr) : Prop := w.ownsRow base E 2 v l.length (cellsP l)
section
variable {w w' : World} {base : Nat} {E : TypeId} {v : Value} {l : List Pr}
theorem OP.nil (w : World) (base : Nat) (E : TypeId) : OP w base E (.slice none 0 0) [] := World.ownsRow_nil w base _ 2
theorem OP.row (h : OP w base E v l) : ∃ a c, v = .slice a l.length c ∧ RowP w a l ∧ (a = none → c = 0 ∧ l = []) ∧ l.length ≤ c ∧ (∀ x, a = some x → x = ⟨x.block, 0, none⟩ ∧ v.ownBlock = some x.block ∧ base ≤ x.block ∧ x.block < w.heap.size) := by
  rcases h.2 with ⟨rfl, h0⟩ | ⟨g, cap, cur, rfl, hb, hg, hn, hc, hs, ht⟩
  · have : l = [] := List.eq_nil_of_length_eq_zero h0
    subst this
    exact ⟨none, 0, rfl, .inl rfl, fun _ => ⟨rfl, rfl⟩, Nat.le_refl _, fun x hx => by cases hx⟩
  · refine ⟨some ⟨g, 0, none⟩, cap, rfl, ?_, (fun h => by cases h), hn, fun x hx => ?_⟩
    · by_cases hl : l = []
      · exact .inl hl
      · refine .inr ⟨g, 0, rfl, fun i hi => ?_⟩
        have c1 := World.ownsRow.cellAt h (i * 2) (by omega)
        have c2 := World.ownsRow.cellAt h (i * 2 + 1) (by omega)
        obtain ⟨k1, k2⟩ := cellsP_at l i hi
        rw [Nat.zero_add, Nat.zero_add, c1, c2]
        exact ⟨k1, k2⟩
    · cases hx
      exact ⟨rfl, rfl, hb, (Array.getElem?_eq_some_iff.1 hg).1⟩
theorem OP.keep {row : Option Nat} (h : OP w base E v l) (hg : w.grownBy w' row) (hne : v.ownBlock = none ∨ v.ownBlock ≠ row) : OP w' base E v l := World.ownsRow.kept h hg hne
theorem OP.below (h : OP w base E v l) (hb : Below w.heap.size w w') : OP w' base E v l := h.keep (gb_below hb none) (by rcases v.ownBlock with _ | x <;> simp)
theorem OP.lt (h : OP w base E v l) : ∀ x, v.ownBlock = some x → base ≤ x ∧ x < w.heap.size := World.ownsRow.lt h
theorem OP.mono {base' : Nat} (h : OP w base E v l) (hb : ∀ k, v.ownBlock = some k → base' ≤ k) : OP w base' E v l := by
  refine ⟨h.1, ?_⟩
  rcases h.2 with hn | ⟨g, cap, cur, rfl, hbg, rest⟩
  · exact .inl hn
  · exact .inr ⟨g, cap, cur, rfl, hb g rfl, rest⟩
theorem OP.r {a : Option Addr} {n c : Nat} (h : OP w base E (.slice a n c) l) : RowP w a l ∧ n = l.length ∧ n ≤ c ∧ (a = none → c = 0) := by
  obtain ⟨a', c', e, hr, hn, hc, -⟩ := h.row
  simp only [Value.slice.injEq] at e
  obtain ⟨rfl, rfl, rfl⟩ := e
  exact ⟨hr, rfl, hc, fun h => (hn h).1⟩
end

/-- append of pairs to a row of the call's own; from nil, or from any address. -/
theorem run_appP {P : Program} {w : World} {base : Nat} {T E : TypeId} (hT : P.underlying T = some (.slice E)) (hinfo : (P.info? E).map (fun i => (i.zero, i.size, i.bytes)) = some (some (.agg #[.int .i64 0, .string ⟨#[]⟩]), 2, 24))
    {v : Value} {l : List Pr} (h : OP w base E v l) (ty : TypeId) (a : Option Addr) (m : List Pr) (c : Nat) (hrow : RowP w a m) (hnil : a = none → c = 0)
    (hlen : l.length + m.length ≤ 4398046511104) (hbase : base ≤ w.heap.size) :
    ∃ v' w', (Builtin.append_ #[T, T] ty #[v, .slice a m.length c]).run P w = .ok v' w' ∧ OP w' base E v' (l ++ m) ∧ w.grownBy w' v.ownBlock ∧ G.Grew w v v' := by
  obtain ⟨i, hi, hz0, hz1, hz2⟩ := G.info_of hinfo
  rcases a with _ | ad
  · have hm : m = [] := by
      rcases hrow with hm | ⟨_, _, e, _⟩
      · exact hm
      · cases e
    subst hm
    obtain rfl := hnil rfl
    exact ⟨v, w, run_append_owned_none w base _ ty _ i 2 hT hi v _ _ h, by simpa using h, gb_refl _ _, .inl rfl⟩
  · have hrow' : ∀ j u, (cellsP m)[j]? = some u → w.cell? (ad.add j) = some u := by
      rcases hrow with rfl | ⟨b, o, e, hc⟩
      · intro j u hj; simp [cellsP] at hj
      · cases e
        exact rowP_news (.inr ⟨b, o, rfl, hc⟩)
    obtain ⟨v', w', hr, ho, hg, _, hgr⟩ := run_append_own_at (P := P) w base T ty E i _ 2 24 hT hi hz0 hz1 hz2 rfl (by omega) v _ _ h ad m.length c (cellsP m) (cellsP_length m) hrow'
      (fun u hu => cellsP_one hu) (by unfold maxLen; omega) (by omega) hbase
    refine ⟨v', w', hr, ?_, hg, hgr⟩
    unfold OP
    rw [List.length_append, cellsP_append]
    exact ho
theorem wpList_appP {P : Program} {w : World} {ops : Array Oper} {rest : List Oper} {x : Oper} {a : Act} {Q : Exit → Act → World → Prop} (hgd : x.guard = none) (s y : Operand) (T : TypeId)
    (ho : x.op = .call { callee := .builtin .append, args := #[s, y], argTypes := #[T, T] })
    {base : Nat} {E : TypeId} (hT : P.underlying T = some (.slice E)) (hinfo : (P.info? E).map (fun i => (i.zero, i.size, i.bytes)) = some (some (.agg #[.int .i64 0, .string ⟨#[]⟩]), 2, 24))
    (v : Value) (l : List Pr) (hs : a.eval s = v) (h : OP w base E v l) (ad : Option Addr) (m : List Pr) (c : Nat) (hx : a.eval y = .slice ad m.length c) (hrow : RowP w ad m) (hnil : ad = none → c = 0)
    (hlen : l.length + m.length ≤ 4398046511104) (hbase : base ≤ w.heap.size)
    (hk : ∀ v' w', OP w' base E v' (l ++ m) → w.grownBy w' v.ownBlock → G.Grew w v v' → wpList P ops Q rest (a.put x.dst v') w') : wpList P ops Q (x :: rest) a w := by
  obtain ⟨v', w', hr, h2, h3, h4⟩ := run_appP hT hinfo h x.type ad m c hrow hnil hlen hbase
  refine wpList_plain hgd fun K hK => ?_
  unfold Oper.wp execOp
  simp only [ho, resolve, invoke, builtin, Sem.run_bind, Sem.run_pure, Result.andThen_ok, List.map_toArray, List.map_cons, List.map_nil, hs, hx, hr]
  exact hK _ _ (hk v' w' h2 h3 h4)
/-- Some new pairs that are written out. -/
theorem RowP.lit (w : World) (l : List Pr) (C : Array Value) (t : TypeId) (fr : Nat × Nat) (hC : C.toList = cellsP l) : RowP (w.alloc (.cells C t fr)) (some ⟨w.heap.size, 0, none⟩) l := by
  by_cases hl : l = []
  · exact .inl hl
  have hh : (w.alloc (.cells C t fr)).heap[w.heap.size]? = some (.cells C t fr) := by show (w.heap.push _)[w.heap.size]? = _; simp
  have hcell : ∀ j, (w.alloc (.cells C t fr)).cell? ⟨w.heap.size, j, none⟩ = C[j]? := fun j => by
    simp only [World.cell?, hh]
    rw [if_neg (by simp)]
  refine .inr ⟨_, _, rfl, fun i hi => ?_⟩
  obtain ⟨k1, k2⟩ := cellsP_at l i hi
  rw [Nat.zero_add, Nat.zero_add, hcell, hcell, ← Array.getElem?_toList, ← Array.getElem?_toList, hC]
  exact ⟨k1, k2⟩
theorem wpListIn_appP {F : Fence} {n : Nat} {P : Program} {w : World} {ops : Array Oper} {rest : List Oper} {x : Oper} {a : Act} {Q : Exit → Act → World → Prop} (hgd : x.guard = none) (s y : Operand) (T : TypeId)
    (ho : x.op = .call { callee := .builtin .append, args := #[s, y], argTypes := #[T, T] })
    {base : Nat} {E : TypeId} (hT : P.underlying T = some (.slice E)) (hinfo : (P.info? E).map (fun i => (i.zero, i.size, i.bytes)) = some (some (.agg #[.int .i64 0, .string ⟨#[]⟩]), 2, 24))
    (v : Value) (l : List Pr) (hs : a.eval s = v) (h : OP w base E v l) (ad : Option Addr) (m : List Pr) (c : Nat) (hx : a.eval y = .slice ad m.length c) (hrow : RowP w ad m) (hnil : ad = none → c = 0)
    (hlen : l.length + m.length ≤ 4398046511104) (hbase : base ≤ w.heap.size)
    (hk : ∀ v' w', OP w' base E v' (l ++ m) → w.grownBy w' v.ownBlock → G.Grew w v v' → wpListIn F n P ops Q rest (a.put x.dst v') w') : wpListIn F n P ops Q (x :: rest) a w := by
  obtain ⟨v', w', hr, h2, h3, h4⟩ := run_appP hT hinfo h x.type ad m c hrow hnil hlen hbase
  refine wpListIn_plain hgd fun K hK => ?_
  unfold Oper.wpIn
  refine ⟨by simp [Oper.about, ho, resolve, Target.leads, Sem.run_pure], ?_⟩
  rw [Oper.semAt_plain F _ _ (by rw [ho]; intro c hc'; cases hc')]
  simp [execOp, ho, resolve, invoke, builtin, hs, hx, hr, Result.andThen]
  exact hK _ _ (hk v' w' h2 h3 h4)
/-- The object of a row of the call's own. -/
theorem OP.obj {w : World} {base : Nat} {E : TypeId} {v : Value} {l : List Pr} (h : OP w base E v l) : ∀ x, v.ownBlock = some x → ∃ vs, w.heap[x]? = some (.cells vs E (0, 0)) := by
  rcases h.2 with ⟨rfl, h0⟩ | ⟨g, cap, cur, rfl, hb, hg, hn, hc, hs, ht⟩
  · intro x hx; cases hx
  · intro x hx
    cases hx
    exact ⟨_, hg⟩
end Go.Proofs.Ytmmcnpcijeahcaa.J
