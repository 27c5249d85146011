/-
  Slices of records that came in: the calls of a reader, the parts that are written.
-/
import Derived.Test.YtjkiollopajmoaaVNil
import Derived.ProofKit
import Derived.Deep.Slices
import Derived.Deep.Fields
namespace Go.Proofs.Ytjkiollopajmoaa.V
set_option linter.unusedVariables false
open Go.ChangeShapes Go.WideShapes Go.ChangeAt Go.RowKit Go.Deep

section
variable {H : Type} {enc : TypeId × Value → H} {P : Program} {w : World} {base : Nat} {spare : Nat → Bool} {held : Bool}
/-- A field of a record whose fields have one cell each. -/
theorem field_of {e : TypeId} {fs : Array Field} {n : Nat} {cs : List Value} {x : DataW H × List MemPlace} (ht : P.underlying e = some (.struct fs)) (hone : oneCellFields P fs = true)
    (h : DataW.trod enc P w base spare held n e cs = some x) (hl : cs.length = fs.size) (j : Nat) (f : Field) (hj : fs[j]? = some f) :
    ∃ v y m, cs[j]? = some v ∧ DataW.trod enc P w base spare held m f.type [v] = some y := by
  obtain ⟨xs, m, _, _, _, hx, hf⟩ := DataW.trod_struct ht h
  have hjs : j < fs.size := (Array.getElem?_eq_some_iff.1 hj).1
  have hj2 : j < cs.length := by omega
  obtain ⟨ho, hk⟩ := hone_of hone j f hj
  have hr := hf j f hj
  rw [ho, hk, List.drop_eq_getElem_cons hj2] at hr
  have hxs : j < xs.length := by omega
  rw [List.getElem?_eq_getElem hxs] at hr
  have e1 : List.take 1 (cs[j] :: List.drop (j + 1) cs) = [cs[j]] := rfl
  rw [e1] at hr
  exact ⟨cs[j], xs[j], m, List.getElem?_eq_getElem hj2, hr⟩
end

theorem addr_add (b o : Nat) (i : Nat) : (⟨b, o, none⟩ : Addr).add i = ⟨b, o + i, none⟩ := by unfold Addr.add; split <;> simp_all

/-- Calls of a reader that came in. -/
def IsAsks (w : World) (a : Option Addr) (len : Nat) (q : Nat → Int × Int × Int) : Prop :=
  len ≤ 9223372036854775807 ∧ (len = 0 ∨ ∃ b o, a = some ⟨b, o, none⟩ ∧ ∀ i, i < len →
    w.cell? ⟨b, o + i * 3, none⟩ = some (.int .i64 (q i).1) ∧ w.cell? ⟨b, o + i * 3 + 1, none⟩ = some (.int .u64 (q i).2.1) ∧ w.cell? ⟨b, o + i * 3 + 2, none⟩ = some (.int .i64 (q i).2.2) ∧
    (0 ≤ (q i).2.1 ∧ (q i).2.1 < 18446744073709551616) ∧ (-9223372036854775808 ≤ (q i).2.2 ∧ (q i).2.2 ≤ 9223372036854775807))

theorem bd_i64 {n : Int} (h : (Lit.int .i64 n).wf = true) : -9223372036854775808 ≤ n ∧ n ≤ 9223372036854775807 := by simpa [Lit.wf, IntKind.min, IntKind.max, IntKind.signed, IntKind.bits] using h
theorem bd_u64 {n : Int} (h : (Lit.int .u64 n).wf = true) : 0 ≤ n ∧ n < 18446744073709551616 := by
  have : 0 ≤ n ∧ n ≤ 18446744073709551615 := by simpa [Lit.wf, IntKind.min, IntKind.max, IntKind.signed, IntKind.bits] using h
  omega

theorem cellsAsk : Try.prog.cellsOf 55 = 3 := by kernel_rfl

theorem open_asks {H : Type} {enc : TypeId × Value → H} {W : World} {base : Nat} {spare : Nat → Bool} {held : Bool} {a : Option Addr} {len cap : Nat} {d : DataW H} {p : List MemPlace}
    (h : DataW.Trod enc Try.prog W base spare held 53 (.slice a len cap) d p) : ∃ q, IsAsks W a len q := by
  obtain ⟨fuel, hf⟩ := h
  rcases open_slice Try.underlying53 hf with ⟨hcs, _⟩ | ⟨x, l, c, m, n, D, Pl, hcs, _, hl, hm, hmm, _, hi⟩
  · simp [Value.cells] at hcs
    obtain ⟨rfl, rfl, rfl⟩ := hcs
    exact ⟨fun _ => (0, 0, 0), by omega, .inl rfl⟩
  · simp [Value.cells] at hcs
    obtain ⟨rfl, rfl, rfl⟩ := hcs
    rw [cellsAsk] at hi
    have hlm : len ≤ m := by rw [hmm]; split <;> omega
    unfold maxLen at hm
    have one : ∀ i, ∃ q : Int × Int × Int, i < len → W.cell? ((x.add (i * 3)).add 0) = some (.int .i64 q.1) ∧ W.cell? ((x.add (i * 3)).add 1) = some (.int .u64 q.2.1) ∧ W.cell? ((x.add (i * 3)).add 2) = some (.int .i64 q.2.2) ∧
        (0 ≤ q.2.1 ∧ q.2.1 < 18446744073709551616) ∧ (-9223372036854775808 ≤ q.2.2 ∧ q.2.2 ≤ 9223372036854775807) := by
      intro i
      by_cases hil : i < len
      · obtain ⟨cs', hc, ht⟩ := hi i (by omega)
        obtain ⟨_, hlen, hcell⟩ := World.cells?_some hc
        obtain ⟨v0, y0, m0, e0, t0⟩ := field_of Try.underlying55 (by kernel_rfl) ht (by rw [hlen]; rfl) 0 _ rfl
        obtain ⟨v1, y1, m1, e1, t1⟩ := field_of Try.underlying55 (by kernel_rfl) ht (by rw [hlen]; rfl) 1 _ rfl
        obtain ⟨v2, y2, m2, e2, t2⟩ := field_of Try.underlying55 (by kernel_rfl) ht (by rw [hlen]; rfl) 2 _ rfl
        obtain ⟨n0, f0, _, _⟩ := DataW.trod_int Try.underlying3 t0
        obtain ⟨n1, f1, _, b1⟩ := DataW.trod_int Try.underlying22 t1
        obtain ⟨n2, f2, _, b2⟩ := DataW.trod_int Try.underlying3 t2
        simp only [List.cons.injEq, and_true] at f0 f1 f2
        subst f0 f1 f2
        exact ⟨(n0, n1, n2), fun _ => ⟨by rw [hcell 0 (by omega), e0], by rw [hcell 1 (by omega), e1], by rw [hcell 2 (by omega), e2], bd_u64 b1, bd_i64 b2⟩⟩
      · exact ⟨(0, 0, 0), fun h => absurd h hil⟩
    obtain ⟨q, hq⟩ : ∃ q : Nat → Int × Int × Int, ∀ i, i < len → W.cell? ((x.add (i * 3)).add 0) = some (.int .i64 (q i).1) ∧ W.cell? ((x.add (i * 3)).add 1) = some (.int .u64 (q i).2.1) ∧ W.cell? ((x.add (i * 3)).add 2) = some (.int .i64 (q i).2.2) ∧
        (0 ≤ (q i).2.1 ∧ (q i).2.1 < 18446744073709551616) ∧ (-9223372036854775808 ≤ (q i).2.2 ∧ (q i).2.2 ≤ 9223372036854775807) := ⟨fun i => Classical.choose (one i), fun i => Classical.choose_spec (one i)⟩
    refine ⟨q, by omega, ?_⟩
    by_cases h0 : len = 0
    · exact .inl h0
    · obtain ⟨b, o, spot⟩ := x
      have hs0 := (hq 0 (by omega)).1
      have hspot : spot = none := by simpa [Addr.add] using World.cell?_spot hs0
      subst hspot
      refine .inr ⟨b, o, rfl, fun i hil => ?_⟩
      have := hq i hil
      simp only [addr_add, Nat.add_zero] at this
      exact this

end Go.Proofs.Ytjkiollopajmoaa.V
