/-
  What comes in: dots, and lists of dots.
-/
import Derived.Test.YtfmlenhakejefaaMGen
import Derived.Test.YtfmlenhakejefaaIn
import Derived.Deep.SlicePairs
import Derived.Lib.SmallJoins

section
namespace Go.Proofs.Ytfmlenhakejefaa.D
set_option linter.unusedVariables false
open Go.RowKit Go.ChangeShapes Go.WideShapes Go.ChangeAt V

theorem addr_add (b o j : Nat) : (⟨b, o, none⟩ : Addr).add j = ⟨b, o + j, none⟩ := by unfold Addr.add; split <;> simp_all
/-- Both numbers of a dot fit. -/
def wfD (d : Dt) : Prop := (-9223372036854775808 ≤ d.1 ∧ d.1 ≤ 9223372036854775807) ∧ (-9223372036854775808 ≤ d.2 ∧ d.2 ≤ 9223372036854775807)

theorem int_in {P : Program} {H : Type} {enc : TypeId × Value → H} {W : World} {base n : Nat} {spare : Nat → Bool} {held : Bool} {t : TypeId} {v : Value} {y : DataW H × List MemPlace}
    (ht : P.underlying t = some (.int .i64)) (h : DataW.trod enc P W base spare held n t [v] = some y) : ∃ z : Int, v = .int .i64 z ∧ -9223372036854775808 ≤ z ∧ z ≤ 9223372036854775807 := by
  obtain ⟨z, e, _, hw⟩ := DataW.trod_int ht h
  simp only [List.cons.injEq, and_true] at e
  exact ⟨z, e, (G.wf_i64 hw).1, (G.wf_i64 hw).2⟩

/-- A dot that came in. -/
theorem in_dot {P : Program} {H : Type} {enc : TypeId × Value → H} {W : World} {base b0 : Nat} {r : Reach} {t : TypeId} {f0 f1 : Field} {v : Value} {d : DataW H} {p : List MemPlace}
    (ht : P.underlying t = some (.struct #[f0, f1])) (hone : Deep.oneCellFields P #[f0, f1] = true) (hC : P.cellsOf t = 2) (k0 : P.underlying f0.type = some (.int .i64)) (k1 : P.underlying f1.type = some (.int .i64))
    (hv : Value.okWide P W r b0 t v) (h : DataW.Trod enc P W base (fun _ => true) true t v d p) : ∃ x : Dt, v = .agg #[.int .i64 x.1, .int .i64 x.2] ∧ wfD x := by
  obtain ⟨v0, v1, y0, y1, n, rfl, -, -, h0, h1⟩ := Joins.open_agg2 ht hone hC hv h
  obtain ⟨a, rfl, ha1, ha2⟩ := int_in k0 h0
  obtain ⟨b, rfl, hb1, hb2⟩ := int_in k1 h1
  exact ⟨(a, b), rfl, ⟨ha1, ha2⟩, ⟨hb1, hb2⟩⟩

/-- A list of dots that came in. -/
theorem in_dots {P : Program} {H : Type} {enc : TypeId × Value → H} {W : World} {base : Nat} {t e : TypeId} {f0 f1 : Field} {a : Option Addr} {len cap : Nat} {d : DataW H} {p : List MemPlace}
    (ht : P.underlying t = some (.slice e)) (he : P.underlying e = some (.struct #[f0, f1])) (ce : P.cellsOf e = 2) (o0 : f0.offset = 0) (o1 : f1.offset = 1) (c0 : P.cellsOf f0.type = 1) (c1 : P.cellsOf f1.type = 1)
    (k0 : P.underlying f0.type = some (.int .i64)) (k1 : P.underlying f1.type = some (.int .i64)) (h : DataW.Trod enc P W base (fun _ => true) true t (.slice a len cap) d p) :
    ∃ zs : List Dt, zs.length = len ∧ RowD W a zs ∧ (a = none → cap = 0) ∧ (∀ x ∈ zs, wfD x) ∧ zs.length ≤ 9223372036854775807 ∧ len ≤ cap := by
  obtain ⟨fuel, hf⟩ := h
  rcases Deep.open_slice_pairs ht he ce o0 o1 c0 c1 hf with ⟨hcs, _⟩ | ⟨x, l, c, m, n, V0, V1, D0, D1, P0, P1, hcs, _, hl, hm, hmm, _, hcell⟩
  · simp [Value.cells] at hcs
    obtain ⟨rfl, rfl, rfl⟩ := hcs
    exact ⟨[], rfl, .inl rfl, fun _ => rfl, by simp, by simp, by omega⟩
  · simp [Value.cells] at hcs
    obtain ⟨rfl, rfl, rfl⟩ := hcs
    have hm' : m = cap := by simpa using hmm
    subst hm'
    have each : ∀ i, i < len → ∃ z : Dt, V0 i = .int .i64 z.1 ∧ V1 i = .int .i64 z.2 ∧ wfD z := by
      intro i hi
      obtain ⟨_, _, h0, h1⟩ := hcell i (by omega)
      obtain ⟨u, hu, hu1, hu2⟩ := int_in k0 h0
      obtain ⟨v, hv, hv1, hv2⟩ := int_in k1 h1
      exact ⟨(u, v), hu, hv, ⟨hu1, hu2⟩, ⟨hv1, hv2⟩⟩
    obtain ⟨z, hz⟩ := Deep.choose_lt each
    have hm63 : len ≤ 9223372036854775807 := by unfold maxLen at hm; omega
    clear hm
    refine ⟨(List.range len).map z, by rw [List.length_map, List.length_range], ?_, (fun h => nomatch h), ?_, (by rw [List.length_map, List.length_range]; exact hm63), hl⟩
    · by_cases h0 : len = 0
      · left; subst h0; rfl
      · obtain ⟨b, off, spot⟩ := x
        have hc0 := (hcell 0 (by omega)).1
        have hspot : spot = none := by simpa [Addr.add] using World.cell?_spot hc0
        subst hspot
        refine .inr ⟨b, off, rfl, fun i hi => ?_⟩
        have hi' : i < len := by simpa using hi
        obtain ⟨g0, g1, _, _⟩ := hcell i (by omega)
        have e2 := addr_add b off
        rw [e2, (hz i hi').1] at g0
        rw [e2, (hz i hi').2.1] at g1
        rw [g0, g1]
        simp
    · intro x hx
      obtain ⟨i, hi, rfl⟩ := List.mem_map.1 hx
      exact (hz i (List.mem_range.1 hi)).2.2
end Go.Proofs.Ytfmlenhakejefaa.D
end

/-
  What comes in: a context, two lists of dots by value.
-/
section
namespace Go.Proofs.Ytfmlenhakejefaa.F
set_option linter.unusedVariables false
open Go.RowKit Go.ChangeShapes Go.WideShapes Go.ChangeAt V D

/-- What is known of a list of dots that came in. -/
def InL (W : World) (a : Option Addr) (xs : List Dt) (n : Nat) : Prop :=
  xs.length ≤ 9223372036854775807 ∧ RowD W a xs ∧ (a = none → n = 0) ∧ (∀ x ∈ xs, wfD x) ∧ xs.length ≤ n

theorem in_list {P : Program} {H : Type} {enc : TypeId × Value → H} {W : World} {base n : Nat} {t e : TypeId} {f0 f1 : Field} {v : Value} {y : DataW H × List MemPlace}
    (ht : P.underlying t = some (.slice e)) (he : P.underlying e = some (.struct #[f0, f1])) (ce : P.cellsOf e = 2) (o0 : f0.offset = 0) (o1 : f1.offset = 1) (c0 : P.cellsOf f0.type = 1) (c1 : P.cellsOf f1.type = 1)
    (k0 : P.underlying f0.type = some (.int .i64)) (k1 : P.underlying f1.type = some (.int .i64)) (h : DataW.trod enc P W base (fun _ => true) true n t [v] = some y) :
    ∃ (xs : List Dt) (a : Option Addr) (m : Nat), v = .slice a xs.length m ∧ InL W a xs m := by
  have hs : ∃ (a : Option Addr) (len cap : Nat), v = .slice a len cap := by
    rcases Deep.open_slice_pairs ht he ce o0 o1 c0 c1 h with ⟨hcs, _⟩ | ⟨x, l, c, m, n', V0, V1, D0, D1, P0, P1, hcs, _⟩
    · simp only [List.cons.injEq, and_true] at hcs
      exact ⟨_, _, _, hcs⟩
    · simp only [List.cons.injEq, and_true] at hcs
      exact ⟨_, _, _, hcs⟩
  obtain ⟨a, len, cap, rfl⟩ := hs
  obtain ⟨zs, e1, h1, h2, h3, h4, h5⟩ := in_dots (d := y.1) (p := y.2) ht he ce o0 o1 c0 c1 k0 k1 ⟨n, h⟩
  subst e1
  exact ⟨zs, a, cap, rfl, h4, h1, h2, h3, h5⟩

/-- A context that came in. -/
theorem in_ctx {P : Program} {H : Type} {enc : TypeId × Value → H} {W : World} {base b0 : Nat} {r : Reach} {t e : TypeId} {fv fc f0 f1 : Field} {v : Value} {d : DataW H} {p : List MemPlace}
    (ht : P.underlying t = some (.struct #[fv, fc])) (hone : Deep.oneCellFields P #[fv, fc] = true) (hC : P.cellsOf t = 2) (hv1 : P.underlying fv.type = some (.slice e)) (hc1 : P.underlying fc.type = some (.slice e))
    (he : P.underlying e = some (.struct #[f0, f1])) (ce : P.cellsOf e = 2) (o0 : f0.offset = 0) (o1 : f1.offset = 1) (c0 : P.cellsOf f0.type = 1) (c1 : P.cellsOf f1.type = 1)
    (k0 : P.underlying f0.type = some (.int .i64)) (k1 : P.underlying f1.type = some (.int .i64))
    (hv : Value.okWide P W r b0 t v) (h : DataW.Trod enc P W base (fun _ => true) true t v d p) :
    ∃ (xs : List Dt) (a : Option Addr) (n : Nat) (ys : List Dt) (b : Option Addr) (m : Nat), v = .agg #[.slice a xs.length n, .slice b ys.length m] ∧ InL W a xs n ∧ InL W b ys m := by
  obtain ⟨v0, v1, y0, y1, fuel, rfl, -, -, h0, h1⟩ := Joins.open_agg2 ht hone hC hv h
  obtain ⟨xs, a, n, rfl, hx⟩ := in_list hv1 he ce o0 o1 c0 c1 k0 k1 h0
  obtain ⟨ys, b, m, rfl, hy⟩ := in_list hc1 he ce o0 o1 c0 c1 k0 k1 h1
  exact ⟨xs, a, n, ys, b, m, rfl, hx, hy⟩
end Go.Proofs.Ytfmlenhakejefaa.F
end
