/-
  What comes in: a context, two lists of dots by value.
-/
import Derived.Test.YtefnoajkdhgonaaInD
namespace Go.Proofs.Ytefnoajkdhgonaa.F
set_option linter.unusedVariables false
open Go.RowKit Go.ChangeShapes Go.WideShapes Go.ChangeAt V D

/-- What is known of a list of dots that came in. -/
def InL (W : World) (a : Option Addr) (xs : List Dt) (n : Nat) : Prop :=
  xs.length ≤ 9223372036854775807 ∧ RowD W a xs ∧ (a = none → n = 0) ∧ (∀ x ∈ xs, wfD x) ∧ xs.length ≤ n

theorem in_list {P : Program} {H : Type} {enc : TypeId × Value → H} {W : World} {base n : Nat} {t e : TypeId} {f0 f1 : Field} {v : Value} {y : DataW H × List MemPlace}
    (ht : P.underlying t = some (.slice e)) (he : P.underlying e = some (.struct #[f0, f1])) (ce : P.cellsOf e = 2) (o0 : f0.offset = 0) (o1 : f1.offset = 1) (c0 : P.cellsOf f0.type = 1) (c1 : P.cellsOf f1.type = 1)
    (k0 : P.underlying f0.type = some (.int .i64)) (k1 : P.underlying f1.type = some (.int .i64)) (h : DataW.trod enc P W base (fun _ => true) true n t [v] = some y) :
    ∃ (xs : List Dt) (a : Option Addr) (m : Nat), v = .slice a xs.length m ∧ InL W a xs m := by
  have hs : ∃ (a : Option Addr) (len cap : Nat), v = .slice a len cap := by
    rcases Deep.open_slice_pairs ht he ce o0 o1 c0 c1 h with ⟨hcs, _⟩ | ⟨x, l, c, m, n', V0, V1, D0, D1, P0, P1, hcs, _⟩
    · simp only [List.cons.injEq, and_true] at hcs
      exact ⟨_, _, _, hcs⟩
    · simp only [List.cons.injEq, and_true] at hcs
      exact ⟨_, _, _, hcs⟩
  obtain ⟨a, len, cap, rfl⟩ := hs
  obtain ⟨zs, e1, h1, h2, h3, h4, h5⟩ := in_dots (d := y.1) (p := y.2) ht he ce o0 o1 c0 c1 k0 k1 ⟨n, h⟩
  subst e1
  exact ⟨zs, a, cap, rfl, h4, h1, h2, h3, h5⟩

/-- A context that came in. -/
theorem in_ctx {P : Program} {H : Type} {enc : TypeId × Value → H} {W : World} {base b0 : Nat} {r : Reach} {t e : TypeId} {fv fc f0 f1 : Field} {v : Value} {d : DataW H} {p : List MemPlace}
    (ht : P.underlying t = some (.struct #[fv, fc])) (hone : Deep.oneCellFields P #[fv, fc] = true) (hC : P.cellsOf t = 2) (hv1 : P.underlying fv.type = some (.slice e)) (hc1 : P.underlying fc.type = some (.slice e))
    (he : P.underlying e = some (.struct #[f0, f1])) (ce : P.cellsOf e = 2) (o0 : f0.offset = 0) (o1 : f1.offset = 1) (c0 : P.cellsOf f0.type = 1) (c1 : P.cellsOf f1.type = 1)
    (k0 : P.underlying f0.type = some (.int .i64)) (k1 : P.underlying f1.type = some (.int .i64))
    (hv : Value.okWide P W r b0 t v) (h : DataW.Trod enc P W base (fun _ => true) true t v d p) :
    ∃ (xs : List Dt) (a : Option Addr) (n : Nat) (ys : List Dt) (b : Option Addr) (m : Nat), v = .agg #[.slice a xs.length n, .slice b ys.length m] ∧ InL W a xs n ∧ InL W b ys m := by
  obtain ⟨v0, v1, y0, y1, fuel, rfl, -, -, h0, h1⟩ := Joins.open_agg2 ht hone hC hv h
  obtain ⟨xs, a, n, rfl, hx⟩ := in_list hv1 he ce o0 o1 c0 c1 k0 k1 h0
  obtain ⟨ys, b, m, rfl, hy⟩ := in_list hc1 he ce o0 o1 c0 c1 k0 k1 h1
  exact ⟨xs, a, n, ys, b, m, rfl, hx, hy⟩
end Go.Proofs.Ytefnoajkdhgonaa.F
