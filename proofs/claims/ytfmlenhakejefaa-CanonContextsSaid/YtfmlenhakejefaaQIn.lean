/-
  What comes in: lists of nodes.
-/
import Derived.Test.YtfmlenhakejefaaNIn
import Derived.Test.YtfmlenhakejefaaQRow
import Derived.Deep.SlicePairs
import Derived.Deep.Strs
namespace Go.Proofs.Ytfmlenhakejefaa.Qs
set_option linter.unusedVariables false
open Go.RowKit Go.ChangeShapes Go.WideShapes Go.ChangeAt V D Nd

theorem addr_add (b o j : Nat) : (⟨b, o, none⟩ : Addr).add j = ⟨b, o + j, none⟩ := by unfold Addr.add; split <;> simp_all
/-- A list of nodes that came in. -/
theorem in_nodes {P : Program} {H : Type} {enc : TypeId × Value → H} {W : World} {base : Nat} {t e : TypeId} {f0 f1 f2 f3 g0 g1 : Field} {a : Option Addr} {len cap : Nat} {d : DataW H} {p : List MemPlace}
    (ht : P.underlying t = some (.slice e)) (he : P.underlying e = some (.struct #[f0, f1, f2, f3])) (ce : P.cellsOf e = 6) (o0 : f0.offset = 0) (o1 : f1.offset = 2) (o2 : f2.offset = 4) (o3 : f3.offset = 5)
    (c0 : P.cellsOf f0.type = 2) (c1 : P.cellsOf f1.type = 2) (c2 : P.cellsOf f2.type = 1) (c3 : P.cellsOf f3.type = 1)
    (u0 : P.underlying f0.type = some (.struct #[g0, g1])) (u1 : P.underlying f1.type = some (.struct #[g0, g1])) (u2 : P.underlying f2.type = some (.int .i64)) (u3 : P.underlying f3.type = some (.int .i32))
    (q0 : g0.offset = 0) (q1 : g1.offset = 1) (e0 : P.cellsOf g0.type = 1) (e1 : P.cellsOf g1.type = 1) (k0 : P.underlying g0.type = some (.int .i64)) (k1 : P.underlying g1.type = some (.int .i64))
    (h : DataW.Trod enc P W base (fun _ => true) true t (.slice a len cap) d p) :
    ∃ zs : List Nt, zs.length = len ∧ RowN W a zs ∧ (a = none → cap = 0) ∧ (∀ x ∈ zs, wfN x) ∧ zs.length ≤ 9223372036854775807 ∧ len ≤ cap := by
  obtain ⟨fuel, hf⟩ := h
  rcases Deep.open_slice ht hf with ⟨hcs, _⟩ | ⟨x, l, c, m, n, Dd, Pl, hcs, _, hl, hm, hmm, _, hx⟩
  · simp [Value.cells] at hcs
    obtain ⟨rfl, rfl, rfl⟩ := hcs
    exact ⟨[], rfl, .inl rfl, fun _ => rfl, by simp, by simp, by omega⟩
  · simp [Value.cells] at hcs
    obtain ⟨rfl, rfl, rfl⟩ := hcs
    have hm' : m = cap := by simpa using hmm
    subst hm'
    have each : ∀ i, i < len → ∃ z : Nt, (∀ j, j < 6 → W.cell? (x.add (i * 6 + j)) = (nc z)[j]?) ∧ wfN z := by
      intro i hi
      obtain ⟨cs', h1, h2⟩ := hx i (by omega)
      rw [ce] at h1
      obtain ⟨_, hlen, hcell⟩ := World.cells?_some h1
      match cs', hlen with
      | [a0, a1, a2, a3, a4, a5], _ =>
        obtain ⟨xs, n', _, _, hlen2, _, hg⟩ := DataW.trod_struct he h2
        match xs, hlen2 with
        | [y0, y1, y2, y3], _ =>
          have h0 := hg 0 f0 rfl
          have h1 := hg 1 f1 rfl
          have h2 := hg 2 f2 rfl
          have h3 := hg 3 f3 rfl
          rw [o0, c0] at h0
          rw [o1, c1] at h1
          rw [o2, c2] at h2
          rw [o3, c3] at h3
          obtain ⟨u, rfl, rfl, hu⟩ := dot_in u0 q0 q1 e0 e1 k0 k1 (show DataW.trod enc P W base (fun _ => true) true n' f0.type [a0, a1] = some y0 by simpa using h0)
          obtain ⟨v, rfl, rfl, hv⟩ := dot_in u1 q0 q1 e0 e1 k0 k1 (show DataW.trod enc P W base (fun _ => true) true n' f1.type [a2, a3] = some y1 by simpa using h1)
          obtain ⟨z, rfl, hz⟩ := int_in u2 (show DataW.trod enc P W base (fun _ => true) true n' f2.type [a4] = some y2 by simpa using h2)
          obtain ⟨r, rfl, hr⟩ := int32_in u3 (show DataW.trod enc P W base (fun _ => true) true n' f3.type [a5] = some y3 by simpa using h3)
          refine ⟨(u, v, z, r), fun j hj => ?_, hu, hv, hz, hr⟩
          have ej := hcell j (by simpa using hj)
          rw [Deep.add_add] at ej
          rw [ej]
          match j, hj with
          | 0, _ => rfl
          | 1, _ => rfl
          | 2, _ => rfl
          | 3, _ => rfl
          | 4, _ => rfl
          | 5, _ => rfl
    obtain ⟨z, hz⟩ := Deep.choose_lt each
    have hm63 : len ≤ 9223372036854775807 := by unfold maxLen at hm; omega
    clear hm
    refine ⟨(List.range len).map z, by rw [List.length_map, List.length_range], ?_, (fun h => nomatch h), ?_, (by rw [List.length_map, List.length_range]; exact hm63), hl⟩
    · by_cases h0 : len = 0
      · left; subst h0; rfl
      · obtain ⟨b, off, spot⟩ := x
        have hc0 := (hz 0 (by omega)).1 0 (by omega)
        have hspot : spot = none := by simpa [Addr.add] using World.cell?_spot (v := .int .i64 (z 0).1.1) hc0
        subst hspot
        refine .inr ⟨b, off, rfl, fun i hi j hj => ?_⟩
        have hi' : i < len := by simpa using hi
        have g0 := (hz i hi').1 j hj
        rw [addr_add b off] at g0
        rw [g0]
        simp
    · intro y hy
      obtain ⟨i, hi, rfl⟩ := List.mem_map.1 hy
      exact (hz i (List.mem_range.1 hi)).2
end Go.Proofs.Ytfmlenhakejefaa.Qs
