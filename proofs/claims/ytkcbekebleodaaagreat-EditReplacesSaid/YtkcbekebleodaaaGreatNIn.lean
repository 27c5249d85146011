/-
  What comes in: a node.
-/
import Derived.Test.YtkcbekebleodaaaGreatInD
import Derived.Test.YtkcbekebleodaaaGreatMNMem
namespace Go.Proofs.YtkcbekebleodaaaGreat.Nd
set_option linter.unusedVariables false
open Go.RowKit Go.ChangeShapes Go.WideShapes Go.ChangeAt V D

/-- All numbers of a node fit. -/
def wfN (n : Nt) : Prop := wfD n.1 ∧ wfD n.2.1 ∧ (-9223372036854775808 ≤ n.2.2.1 ∧ n.2.2.1 ≤ 9223372036854775807) ∧ (-2147483648 ≤ n.2.2.2 ∧ n.2.2.2 ≤ 2147483647)
theorem int32_in {P : Program} {H : Type} {enc : TypeId × Value → H} {W : World} {base n : Nat} {spare : Nat → Bool} {held : Bool} {t : TypeId} {v : Value} {y : DataW H × List MemPlace}
    (ht : P.underlying t = some (.int .i32)) (h : DataW.trod enc P W base spare held n t [v] = some y) : ∃ z : Int, v = .int .i32 z ∧ -2147483648 ≤ z ∧ z ≤ 2147483647 := by
  obtain ⟨z, e, _, hw⟩ := DataW.trod_int ht h
  simp only [List.cons.injEq, and_true] at e
  exact ⟨z, e, (G.wf_i32 hw).1, (G.wf_i32 hw).2⟩
/-- Two cells that are read as a dot. -/
theorem dot_in {P : Program} {H : Type} {enc : TypeId × Value → H} {W : World} {base n : Nat} {spare : Nat → Bool} {held : Bool} {t : TypeId} {g0 g1 : Field} {u v : Value} {y : DataW H × List MemPlace}
    (ht : P.underlying t = some (.struct #[g0, g1])) (o0 : g0.offset = 0) (o1 : g1.offset = 1) (c0 : P.cellsOf g0.type = 1) (c1 : P.cellsOf g1.type = 1) (k0 : P.underlying g0.type = some (.int .i64)) (k1 : P.underlying g1.type = some (.int .i64))
    (h : DataW.trod enc P W base spare held n t [u, v] = some y) : ∃ x : Dt, u = .int .i64 x.1 ∧ v = .int .i64 x.2 ∧ wfD x := by
  obtain ⟨xs, m, _, _, hlen, _, hg⟩ := DataW.trod_struct ht h
  have h0 := hg 0 g0 rfl
  have h1 := hg 1 g1 rfl
  rw [o0, c0] at h0
  rw [o1, c1] at h1
  match xs, hlen with
  | [y0, y1], _ =>
    obtain ⟨a, ea, ha1, ha2⟩ := int_in k0 (show DataW.trod enc P W base spare held m g0.type [u] = some y0 by simpa using h0)
    obtain ⟨b, eb, hb1, hb2⟩ := int_in k1 (show DataW.trod enc P W base spare held m g1.type [v] = some y1 by simpa using h1)
    exact ⟨(a, b), ea, eb, ⟨ha1, ha2⟩, ⟨hb1, hb2⟩⟩
end Go.Proofs.YtkcbekebleodaaaGreat.Nd
