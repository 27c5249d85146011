/-
  What comes in: dots, and lists of dots.
-/
import Derived.Test.YtkcbekebleodaaaGreatMGen
import Derived.Test.YtkcbekebleodaaaGreatIn
import Derived.Deep.SlicePairs
import Derived.Lib.SmallJoins
namespace Go.Proofs.YtkcbekebleodaaaGreat.D
set_option linter.unusedVariables false
open Go.RowKit Go.ChangeShapes Go.WideShapes Go.ChangeAt V

theorem addr_add (b o j : Nat) : (⟨b, o, none⟩ : Addr).add j = ⟨b, o + j, none⟩ := by unfold Addr.add; split <;> simp_all
/-- Both numbers of a dot fit. -/
def wfD (d : Dt) : Prop := (-9223372036854775808 ≤ d.1 ∧ d.1 ≤ 9223372036854775807) ∧ (-9223372036854775808 ≤ d.2 ∧ d.2 ≤ 9223372036854775807)

theorem int_in {P : Program} {H : Type} {enc : TypeId × Value → H} {W : World} {base n : Nat} {spare : Nat → Bool} {held : Bool} {t : TypeId} {v : Value} {y : DataW H × List MemPlace}
    (ht : P.underlying t = some (.int .i64)) (h : DataW.trod enc P W base spare held n t [v] = some y) : ∃ z : Int, v = .int .i64 z ∧ -9223372036854775808 ≤ z ∧ z ≤ 9223372036854775807 := by
  obtain ⟨z, e, _, hw⟩ := DataW.trod_int ht h
  simp only [List.cons.injEq, and_true] at e
  exact ⟨z, e, (G.wf_i64 hw).1, (G.wf_i64 hw).2⟩

/-- A dot that came in. -/
theorem in_dot {P : Program} {H : Type} {enc : TypeId × Value → H} {W : World} {base b0 : Nat} {r : Reach} {t : TypeId} {f0 f1 : Field} {v : Value} {d : DataW H} {p : List MemPlace}
    (ht : P.underlying t = some (.struct #[f0, f1])) (hone : Deep.oneCellFields P #[f0, f1] = true) (hC : P.cellsOf t = 2) (k0 : P.underlying f0.type = some (.int .i64)) (k1 : P.underlying f1.type = some (.int .i64))
    (hv : Value.okWide P W r b0 t v) (h : DataW.Trod enc P W base (fun _ => true) true t v d p) : ∃ x : Dt, v = .agg #[.int .i64 x.1, .int .i64 x.2] ∧ wfD x := by
  obtain ⟨v0, v1, y0, y1, n, rfl, -, -, h0, h1⟩ := Joins.open_agg2 ht hone hC hv h
  obtain ⟨a, rfl, ha1, ha2⟩ := int_in k0 h0
  obtain ⟨b, rfl, hb1, hb2⟩ := int_in k1 h1
  exact ⟨(a, b), rfl, ⟨ha1, ha2⟩, ⟨hb1, hb2⟩⟩

end Go.Proofs.YtkcbekebleodaaaGreat.D
