/-
  What comes in: lists of strings.
-/
import Derived.Test.YtmmcnpcijeahcaaJActs
namespace Go.Proofs.Ytmmcnpcijeahcaa.J
set_option linter.unusedVariables false
open Go.RowKit Go.ChangeShapes Go.WideShapes Go.ChangeAt V

/-- A list of strings that came in. -/
theorem in_strs {P : Program} {H : Type} {enc : TypeId × Value → H} {W : World} {base : Nat} {t e : TypeId} {a : Option Addr} {len cap : Nat} {d : DataW H} {p : List MemPlace}
    (ht : P.underlying t = some (.slice e)) (he : P.underlying e = some .string) (ce : P.cellsOf e = 1) (h : DataW.Trod enc P W base (fun _ => true) true t (.slice a len cap) d p) :
    ∃ zs : List ByteArray, zs.length = len ∧ RowS W a zs ∧ (a = none → cap = 0) ∧ (∀ x ∈ zs, x.size ≤ 9223372036854775807) ∧ zs.length ≤ 9223372036854775807 ∧ len ≤ cap := by
  obtain ⟨fuel, hf⟩ := h
  rcases Deep.open_slice ht hf with ⟨hcs, _⟩ | ⟨x, l, c, m, n, D, Pl, hcs, _, hl, hm, hmm, _, hx⟩
  · simp [Value.cells] at hcs
    obtain ⟨rfl, rfl, rfl⟩ := hcs
    exact ⟨[], rfl, .inl rfl, fun _ => rfl, by simp, by simp, by omega⟩
  · simp [Value.cells] at hcs
    obtain ⟨rfl, rfl, rfl⟩ := hcs
    have hm' : m = cap := by simpa using hmm
    subst hm'
    have each : ∀ i, i < len → ∃ z : ByteArray, W.cell? (x.add i) = some (.string z) ∧ z.size ≤ 9223372036854775807 := by
      intro i hi
      obtain ⟨cs', h1, h2⟩ := hx i (by omega)
      rw [ce, Nat.mul_one] at h1
      obtain ⟨_, hlen, hcell⟩ := World.cells?_some h1
      match cs', hlen with
      | [v0], _ =>
        have e0 := hcell 0 (by omega)
        rw [Deep.add_add] at e0
        obtain ⟨u0, rfl, hu0⟩ := str_in he h2
        exact ⟨u0, by simpa using e0, hu0⟩
    obtain ⟨z, hz⟩ := Deep.choose_lt each
    have hm63 : len ≤ 9223372036854775807 := by unfold maxLen at hm; omega
    clear hm
    refine ⟨(List.range len).map z, by rw [List.length_map, List.length_range], ?_, (fun h => nomatch h), ?_, (by rw [List.length_map, List.length_range]; exact hm63), hl⟩
    · by_cases h0 : len = 0
      · left; subst h0; rfl
      · obtain ⟨b, off, spot⟩ := x
        have hc0 := (hz 0 (by omega)).1
        have hspot : spot = none := by simpa [Addr.add] using World.cell?_spot hc0
        subst hspot
        refine .inr ⟨b, off, rfl, fun i hi => ?_⟩
        have hi' : i < len := by simpa using hi
        have g0 := (hz i hi').1
        rw [addr_add b off] at g0
        rw [g0]
        simp
    · intro y hy
      obtain ⟨i, hi, rfl⟩ := List.mem_map.1 hy
      exact (hz i (List.mem_range.1 hi)).2
end Go.Proofs.Ytmmcnpcijeahcaa.J
