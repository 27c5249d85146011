/-
  What comes in: lists of states.
-/
import Derived.Test.YtmdebedkljpagaaJnK
import Derived.Test.YtmdebedkljpagaaQIn
namespace Go.Proofs.Ytmdebedkljpagaa.Jn
set_option linter.unusedVariables false
open Go.RowKit Go.ChangeShapes Go.WideShapes Go.ChangeAt V D Nd Qs

/-- A list of states that came in. -/
theorem in_states {P : Program} {H : Type} {enc : TypeId × Value → H} {W : World} {base : Nat} {t s e : TypeId} {f0 f1 f2 f3 g0 g1 : Field} {a : Option Addr} {len cap : Nat} {d : DataW H} {p : List MemPlace}
    (ht : P.underlying t = some (.slice s)) (cs : P.cellsOf s = 1) (hs : P.underlying s = some (.slice e)) (he : P.underlying e = some (.struct #[f0, f1, f2, f3])) (ce : P.cellsOf e = 6) (o0 : f0.offset = 0) (o1 : f1.offset = 2) (o2 : f2.offset = 4) (o3 : f3.offset = 5)
    (c0 : P.cellsOf f0.type = 2) (c1 : P.cellsOf f1.type = 2) (c2 : P.cellsOf f2.type = 1) (c3 : P.cellsOf f3.type = 1)
    (u0 : P.underlying f0.type = some (.struct #[g0, g1])) (u1 : P.underlying f1.type = some (.struct #[g0, g1])) (u2 : P.underlying f2.type = some (.int .i64)) (u3 : P.underlying f3.type = some (.int .i32))
    (q0 : g0.offset = 0) (q1 : g1.offset = 1) (e0 : P.cellsOf g0.type = 1) (e1 : P.cellsOf g1.type = 1) (k0 : P.underlying g0.type = some (.int .i64)) (k1 : P.underlying g1.type = some (.int .i64))
    (h : DataW.Trod enc P W base (fun _ => true) true t (.slice a len cap) d p) :
    ∃ zs : List S3, zs.length = len ∧ RowL W a zs ∧ (a = none → cap = 0) ∧ AllL W zs ∧ (∀ z ∈ zs, ∀ y ∈ z.1, wfN y) ∧ zs.length ≤ 9223372036854775807 ∧ len ≤ cap := by
  obtain ⟨fuel, hf⟩ := h
  rcases Deep.open_slice ht hf with ⟨hcs, _⟩ | ⟨x, l, c, m, n, Dd, Pl, hcs, _, hl, hm, hmm, _, hx⟩
  · simp [Value.cells] at hcs
    obtain ⟨rfl, rfl, rfl⟩ := hcs
    exact ⟨[], rfl, .inl rfl, fun _ => rfl, (fun x hx => by cases hx), (fun z hz => by cases hz), by simp, by omega⟩
  · simp [Value.cells] at hcs
    obtain ⟨rfl, rfl, rfl⟩ := hcs
    have hm' : m = cap := by simpa using hmm
    subst hm'
    have each : ∀ i, i < len → ∃ z : S3, W.cell? (x.add i) = some (.slice z.2.1 z.1.length z.2.2) ∧ Sl W z.2.1 z.1.length z.2.2 z.1 ∧ ∀ y ∈ z.1, wfN y := by
      intro i hi
      obtain ⟨cs', h1, h2⟩ := hx i (by omega)
      rw [cs, Nat.mul_one] at h1
      obtain ⟨_, hlen, hcell⟩ := World.cells?_some h1
      match cs', hlen with
      | [v0], _ =>
        have e9 := hcell 0 (by omega)
        rw [Deep.add_add] at e9
        have e9 : W.cell? (x.add i) = some v0 := by simpa using e9
        obtain ⟨a2, len2, cap2, rfl⟩ : ∃ a2 len2 cap2, v0 = .slice a2 len2 cap2 := by
          rcases Deep.open_slice hs h2 with ⟨q, _⟩ | ⟨x2, l2, c2, _, _, _, _, q, _⟩
          · simp only [List.cons.injEq, and_true] at q
            exact ⟨_, _, _, q⟩
          · simp only [List.cons.injEq, and_true] at q
            exact ⟨_, _, _, q⟩
        obtain ⟨zs, z1, z2, z3, z4, z5, z6⟩ := in_nodes hs he ce o0 o1 o2 o3 c0 c1 c2 c3 u0 u1 u2 u3 q0 q1 e0 e1 k0 k1 (a := a2) (len := len2) (cap := cap2) (⟨n, by simpa [Value.cells] using h2⟩ : DataW.Trod enc P W base (fun _ => true) true s (.slice a2 len2 cap2) (Dd i) (Pl i))
        subst z1
        exact ⟨(zs, a2, cap2), e9, ⟨rfl, z2, z3, z6⟩, z4⟩
    obtain ⟨z, hz⟩ := Deep.choose_lt each
    have hm63 : len ≤ 9223372036854775807 := by unfold maxLen at hm; omega
    clear hm
    refine ⟨(List.range len).map z, by rw [List.length_map, List.length_range], ?_, (fun h => nomatch h), ?_, ?_, (by rw [List.length_map, List.length_range]; exact hm63), hl⟩
    · by_cases h0 : len = 0
      · left; subst h0; rfl
      · obtain ⟨b, off, spot⟩ := x
        have hc0 := (hz 0 (by omega)).1
        have hspot : spot = none := by simpa [Addr.add] using World.cell?_spot hc0
        subst hspot
        refine .inr ⟨b, off, rfl, fun i hi => ?_⟩
        have hi' : i < len := by simpa using hi
        have g0 := (hz i hi').1
        rw [Qs.addr_add b off] at g0
        rw [g0]
        simp
    · intro y hy
      obtain ⟨i, hi, rfl⟩ := List.mem_map.1 hy
      exact (hz i (List.mem_range.1 hi)).2.1
    · intro y hy
      obtain ⟨i, hi, rfl⟩ := List.mem_map.1 hy
      exact (hz i (List.mem_range.1 hi)).2.2
end Go.Proofs.Ytmdebedkljpagaa.Jn
