/-
  What comes in: lists of calls (two numbers and a string each), lists of strings.
-/
import Derived.Test.YtmmcnpcijeahcaaIn
import Derived.Deep.SlicePairs
import Derived.Deep.Strs
namespace Go.Proofs.Ytmmcnpcijeahcaa.J
set_option linter.unusedVariables false
open Go.RowKit Go.ChangeShapes Go.WideShapes Go.ChangeAt V

/-- A call: what, the key, the value. -/
abbrev Ac := Int × Int × ByteArray
theorem addr_add (b o j : Nat) : (⟨b, o, none⟩ : Addr).add j = ⟨b, o + j, none⟩ := by unfold Addr.add; split <;> simp_all
def wfA (x : Ac) : Prop := (-9223372036854775808 ≤ x.1 ∧ x.1 ≤ 9223372036854775807) ∧ (-9223372036854775808 ≤ x.2.1 ∧ x.2.1 ≤ 9223372036854775807) ∧ x.2.2.size ≤ 9223372036854775807
/-- The cells behind an address hold the calls l. -/
def RowA (w : World) (a : Option Addr) (l : List Ac) : Prop :=
  l = [] ∨ ∃ b o, a = some ⟨b, o, none⟩ ∧ ∀ i (h : i < l.length), w.cell? ⟨b, o + i * 3, none⟩ = some (.int .i64 l[i].1) ∧ w.cell? ⟨b, o + (i * 3 + 1), none⟩ = some (.int .i64 l[i].2.1) ∧ w.cell? ⟨b, o + (i * 3 + 2), none⟩ = some (.string l[i].2.2)
theorem RowA.of_heap {w w' : World} {a : Option Addr} {l : List Ac} (h : RowA w a l) (hh : ∀ b, (∃ o, a = some ⟨b, o, none⟩) → b < w.heap.size → w'.heap[b]? = w.heap[b]?) : RowA w' a l := by
  rcases h with h | ⟨b, o, rfl, h⟩
  · exact .inl h
  · refine .inr ⟨b, o, rfl, fun i hi => ?_⟩
    obtain ⟨h1, h2, h3⟩ := h i hi
    have e := hh b ⟨o, rfl⟩ (lt_of_cell h1)
    exact ⟨by rw [World.cell?_of_block (w := w) e]; exact h1, by rw [World.cell?_of_block (w := w) e]; exact h2, by rw [World.cell?_of_block (w := w) e]; exact h3⟩
theorem RowA.keepB {w w' : World} {a : Option Addr} {l : List Ac} {B : Nat} (h : RowA w a l) (hb : Below B w w') (hB : w.heap.size ≤ B) : RowA w' a l := h.of_heap fun b _ hl => hb.block b (Nat.lt_of_lt_of_le hl hB)
theorem RowA.get {w : World} {a : Option Addr} {l : List Ac} (h : RowA w a l) (k : Nat) (hk : k < l.length) :
    ∃ b o, a = some ⟨b, o, none⟩ ∧ w.cell? ⟨b, o + k * 3, none⟩ = some (.int .i64 l[k].1) ∧ w.cell? ⟨b, o + k * 3 + 1, none⟩ = some (.int .i64 l[k].2.1) ∧ w.cell? ⟨b, o + k * 3 + 2, none⟩ = some (.string l[k].2.2) := by
  rcases h with rfl | ⟨b, o, rfl, hc⟩
  · simp at hk
  · exact ⟨b, o, rfl, hc k hk⟩
theorem int_in {P : Program} {H : Type} {enc : TypeId × Value → H} {W : World} {base n : Nat} {spare : Nat → Bool} {held : Bool} {t : TypeId} {v : Value} {y : DataW H × List MemPlace}
    (ht : P.underlying t = some (.int .i64)) (h : DataW.trod enc P W base spare held n t [v] = some y) : ∃ z : Int, v = .int .i64 z ∧ -9223372036854775808 ≤ z ∧ z ≤ 9223372036854775807 := by
  obtain ⟨z, e, _, hw⟩ := DataW.trod_int ht h
  simp only [List.cons.injEq, and_true] at e
  exact ⟨z, e, (G.wf_i64 hw).1, (G.wf_i64 hw).2⟩
theorem str_in {P : Program} {H : Type} {enc : TypeId × Value → H} {W : World} {base n : Nat} {spare : Nat → Bool} {held : Bool} {t : TypeId} {v : Value} {y : DataW H × List MemPlace}
    (ht : P.underlying t = some .string) (h : DataW.trod enc P W base spare held n t [v] = some y) : ∃ s : ByteArray, v = .string s ∧ s.size ≤ 9223372036854775807 := by
  obtain ⟨s, e, _, hs⟩ := DataW.trod_string ht h
  simp only [List.cons.injEq, and_true] at e
  exact ⟨s, e, by unfold maxLen at hs; omega⟩

/-- A list of calls that came in. -/
theorem in_acts {P : Program} {H : Type} {enc : TypeId × Value → H} {W : World} {base : Nat} {t e : TypeId} {f0 f1 f2 : Field} {a : Option Addr} {len cap : Nat} {d : DataW H} {p : List MemPlace}
    (ht : P.underlying t = some (.slice e)) (he : P.underlying e = some (.struct #[f0, f1, f2])) (ce : P.cellsOf e = 3) (o0 : f0.offset = 0) (o1 : f1.offset = 1) (o2 : f2.offset = 2) (c0 : P.cellsOf f0.type = 1) (c1 : P.cellsOf f1.type = 1) (c2 : P.cellsOf f2.type = 1)
    (k0 : P.underlying f0.type = some (.int .i64)) (k1 : P.underlying f1.type = some (.int .i64)) (k2 : P.underlying f2.type = some .string) (h : DataW.Trod enc P W base (fun _ => true) true t (.slice a len cap) d p) :
    ∃ zs : List Ac, zs.length = len ∧ RowA W a zs ∧ (a = none → cap = 0) ∧ (∀ x ∈ zs, wfA x) ∧ zs.length ≤ 9223372036854775807 ∧ len ≤ cap := by
  obtain ⟨fuel, hf⟩ := h
  rcases Deep.open_slice ht hf with ⟨hcs, _⟩ | ⟨x, l, c, m, n, D, Pl, hcs, _, hl, hm, hmm, _, hx⟩
  · simp [Value.cells] at hcs
    obtain ⟨rfl, rfl, rfl⟩ := hcs
    exact ⟨[], rfl, .inl rfl, fun _ => rfl, by simp, by simp, by omega⟩
  · simp [Value.cells] at hcs
    obtain ⟨rfl, rfl, rfl⟩ := hcs
    have hm' : m = cap := by simpa using hmm
    subst hm'
    have each : ∀ i, i < len → ∃ z : Ac, W.cell? (x.add (i * 3)) = some (.int .i64 z.1) ∧ W.cell? (x.add (i * 3 + 1)) = some (.int .i64 z.2.1) ∧ W.cell? (x.add (i * 3 + 2)) = some (.string z.2.2) ∧ wfA z := by
      intro i hi
      obtain ⟨cs', h1, h2⟩ := hx i (by omega)
      rw [ce] at h1
      obtain ⟨_, hlen, hcell⟩ := World.cells?_some h1
      obtain ⟨y0, y1, y2, q, _, _, g0, g1, g2⟩ := Deep.trod_struct3 he h2
      match cs', hlen with
      | [v0, v1, v2], _ =>
        simp only [o0, o1, o2, c0, c1, c2, List.drop_zero, List.take_succ_cons, List.take_zero, List.drop_succ_cons] at g0 g1 g2
        have e0 := hcell 0 (by omega)
        have e1 := hcell 1 (by omega)
        have e2 := hcell 2 (by omega)
        rw [Deep.add_add] at e0 e1 e2
        obtain ⟨u0, rfl, hu0⟩ := int_in k0 g0
        obtain ⟨u1, rfl, hu1⟩ := int_in k1 g1
        obtain ⟨u2, rfl, hu2⟩ := str_in k2 g2
        exact ⟨(u0, u1, u2), by simpa using e0, by simpa using e1, by simpa using e2, hu0, hu1, hu2⟩
    obtain ⟨z, hz⟩ := Deep.choose_lt each
    have hm63 : len ≤ 9223372036854775807 := by unfold maxLen at hm; omega
    clear hm
    refine ⟨(List.range len).map z, by rw [List.length_map, List.length_range], ?_, (fun h => nomatch h), ?_, (by rw [List.length_map, List.length_range]; exact hm63), hl⟩
    · by_cases h0 : len = 0
      · left; subst h0; rfl
      · obtain ⟨b, off, spot⟩ := x
        have hc0 := (hz 0 (by omega)).1
        have hspot : spot = none := by simpa [Addr.add] using World.cell?_spot hc0
        subst hspot
        refine .inr ⟨b, off, rfl, fun i hi => ?_⟩
        have hi' : i < len := by simpa using hi
        obtain ⟨g0, g1, g2, _⟩ := hz i hi'
        rw [addr_add b off] at g0 g1 g2
        rw [g0, g1, g2]
        simp
    · intro y hy
      obtain ⟨i, hi, rfl⟩ := List.mem_map.1 hy
      exact (hz i (List.mem_range.1 hi)).2.2.2

/-- The cells behind an address hold the strings l. -/
def RowS (w : World) (a : Option Addr) (l : List ByteArray) : Prop :=
  l = [] ∨ ∃ b o, a = some ⟨b, o, none⟩ ∧ ∀ i (h : i < l.length), w.cell? ⟨b, o + i, none⟩ = some (.string l[i])
theorem RowS.keepB {w w' : World} {a : Option Addr} {l : List ByteArray} {B : Nat} (h : RowS w a l) (hb : Below B w w') (hB : w.heap.size ≤ B) : RowS w' a l := by
  rcases h with h | ⟨b, o, rfl, h⟩
  · exact .inl h
  · exact .inr ⟨b, o, rfl, fun i hi => by rw [World.cell?_of_block (w := w) (hb.block b (Nat.lt_of_lt_of_le (lt_of_cell (h i hi)) hB))]; exact h i hi⟩
end Go.Proofs.Ytmmcnpcijeahcaa.J
