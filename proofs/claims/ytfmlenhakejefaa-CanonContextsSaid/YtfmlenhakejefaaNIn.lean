/-
  What comes in: a node.
-/
import Derived.Test.YtfmlenhakejefaaMInD
import Derived.Test.YtfmlenhakejefaaNMem
namespace Go.Proofs.Ytfmlenhakejefaa.Nd
set_option linter.unusedVariables false
open Go.RowKit Go.ChangeShapes Go.WideShapes Go.ChangeAt V D

/-- All numbers of a node fit. -/
def wfN (n : Nt) : Prop := wfD n.1 ∧ wfD n.2.1 ∧ (-9223372036854775808 ≤ n.2.2.1 ∧ n.2.2.1 ≤ 9223372036854775807) ∧ (-2147483648 ≤ n.2.2.2 ∧ n.2.2.2 ≤ 2147483647)
theorem int32_in {P : Program} {H : Type} {enc : TypeId × Value → H} {W : World} {base n : Nat} {spare : Nat → Bool} {held : Bool} {t : TypeId} {v : Value} {y : DataW H × List MemPlace}
    (ht : P.underlying t = some (.int .i32)) (h : DataW.trod enc P W base spare held n t [v] = some y) : ∃ z : Int, v = .int .i32 z ∧ -2147483648 ≤ z ∧ z ≤ 2147483647 := by
  obtain ⟨z, e, _, hw⟩ := DataW.trod_int ht h
  simp only [List.cons.injEq, and_true] at e
  exact ⟨z, e, (G.wf_i32 hw).1, (G.wf_i32 hw).2⟩
/-- Two cells that are read as a dot. -/
theorem dot_in {P : Program} {H : Type} {enc : TypeId × Value → H} {W : World} {base n : Nat} {spare : Nat → Bool} {held : Bool} {t : TypeId} {g0 g1 : Field} {u v : Value} {y : DataW H × List MemPlace}
    (ht : P.underlying t = some (.struct #[g0, g1])) (o0 : g0.offset = 0) (o1 : g1.offset = 1) (c0 : P.cellsOf g0.type = 1) (c1 : P.cellsOf g1.type = 1) (k0 : P.underlying g0.type = some (.int .i64)) (k1 : P.underlying g1.type = some (.int .i64))
    (h : DataW.trod enc P W base spare held n t [u, v] = some y) : ∃ x : Dt, u = .int .i64 x.1 ∧ v = .int .i64 x.2 ∧ wfD x := by
  obtain ⟨xs, m, _, _, hlen, _, hg⟩ := DataW.trod_struct ht h
  have h0 := hg 0 g0 rfl
  have h1 := hg 1 g1 rfl
  rw [o0, c0] at h0
  rw [o1, c1] at h1
  match xs, hlen with
  | [y0, y1], _ =>
    obtain ⟨a, ea, ha1, ha2⟩ := int_in k0 (show DataW.trod enc P W base spare held m g0.type [u] = some y0 by simpa using h0)
    obtain ⟨b, eb, hb1, hb2⟩ := int_in k1 (show DataW.trod enc P W base spare held m g1.type [v] = some y1 by simpa using h1)
    exact ⟨(a, b), ea, eb, ⟨ha1, ha2⟩, ⟨hb1, hb2⟩⟩
/-- A node that came in. -/
theorem in_node {P : Program} {H : Type} {enc : TypeId × Value → H} {W : World} {base b0 : Nat} {r : Reach} {t : TypeId} {f0 f1 f2 f3 g0 g1 : Field} {v : Value} {d : DataW H} {p : List MemPlace}
    (ht : P.underlying t = some (.struct #[f0, f1, f2, f3])) (hC : P.cellsOf t = 6) (o0 : f0.offset = 0) (o1 : f1.offset = 2) (o2 : f2.offset = 4) (o3 : f3.offset = 5)
    (c0 : P.cellsOf f0.type = 2) (c1 : P.cellsOf f1.type = 2) (c2 : P.cellsOf f2.type = 1) (c3 : P.cellsOf f3.type = 1)
    (u0 : P.underlying f0.type = some (.struct #[g0, g1])) (u1 : P.underlying f1.type = some (.struct #[g0, g1])) (u2 : P.underlying f2.type = some (.int .i64)) (u3 : P.underlying f3.type = some (.int .i32))
    (q0 : g0.offset = 0) (q1 : g1.offset = 1) (e0 : P.cellsOf g0.type = 1) (e1 : P.cellsOf g1.type = 1) (k0 : P.underlying g0.type = some (.int .i64)) (k1 : P.underlying g1.type = some (.int .i64))
    (hv : Value.okWide P W r b0 t v) (h : DataW.Trod enc P W base (fun _ => true) true t v d p) : ∃ x : Nt, v = nv x ∧ wfN x := by
  obtain ⟨cs, rfl, hsz⟩ := okWide_struct ht hv
  obtain ⟨l⟩ := cs
  match l, hsz.trans hC with
  | [a0, a1, a2, a3, a4, a5], _ =>
    obtain ⟨fuel, hf⟩ := h
    obtain ⟨xs, n, _, hx, _, hlen, hg⟩ := DataW.trod_struct ht hf
    match xs, hlen with
    | [y0, y1, y2, y3], _ =>
      have h0 := hg 0 f0 rfl
      have h1 := hg 1 f1 rfl
      have h2 := hg 2 f2 rfl
      have h3 := hg 3 f3 rfl
      rw [o0, c0] at h0
      rw [o1, c1] at h1
      rw [o2, c2] at h2
      rw [o3, c3] at h3
      obtain ⟨x, rfl, rfl, hx⟩ := dot_in u0 q0 q1 e0 e1 k0 k1 (show DataW.trod enc P W base (fun _ => true) true n f0.type [a0, a1] = some y0 by simpa [Value.cells] using h0)
      obtain ⟨y, rfl, rfl, hy⟩ := dot_in u1 q0 q1 e0 e1 k0 k1 (show DataW.trod enc P W base (fun _ => true) true n f1.type [a2, a3] = some y1 by simpa [Value.cells] using h1)
      obtain ⟨z, rfl, hz⟩ := int_in u2 (show DataW.trod enc P W base (fun _ => true) true n f2.type [a4] = some y2 by simpa [Value.cells] using h2)
      obtain ⟨u, rfl, hu⟩ := int32_in u3 (show DataW.trod enc P W base (fun _ => true) true n f3.type [a5] = some y3 by simpa [Value.cells] using h3)
      exact ⟨(x, y, z, u), rfl, hx, hy, hz, hu⟩
end Go.Proofs.Ytfmlenhakejefaa.Nd
