/-
  IsSet: the reference's and the program's.
-/
import Derived.Test.YtkcbekebleodaaaGreatMDCmp
import Derived.Shelf.SlSortCmp.QuietGrown

section
namespace Go.Proofs.YtkcbekebleodaaaGreat.D
set_option linter.unusedVariables false
open Go.RowKit V Go.Sort

theorem ix_dot (b o n c k : Nat) (z : Int) (hz : z = (k : Int)) (hk : k < n) : ∀ w, (Instr.indexAt 75 (.slice (some ⟨b, o, none⟩) n c) (.int .i64 z)).run Tryz.prog w = .ok (.pointer (some ⟨b, o + k * 2, none⟩)) w := by
  intro w
  subst hz
  have hk2 : (k : Int) < (n : Int) := by omega
  go_simp
theorem wrap_nat {k : Nat} (h : (k : Int) ≤ 140737488355328) : IntKind.i64.wrap (k : Int) = k := by simp [IntKind.wrap, IntKind.bits, IntKind.signed]; omega

theorem cmp_neg_lt {p q : Dt} (h : less p q = true) : ¬ (0 : Int) ≤ cmpR p q := by have := cmp_neg.2 h; omega
theorem cmp_neg_ge {p q : Dt} (h : less p q = false) : (0 : Int) ≤ cmpR p q := by
  rcases Int.lt_or_le (cmpR p q) 0 with k | k
  · rw [cmp_neg, h] at k; cases k
  · exact k
end Go.Proofs.YtkcbekebleodaaaGreat.D
end

/-
  Parts of rows of dots; append and new rows in a region that draws.
-/
section
namespace Go.Proofs.YtkcbekebleodaaaGreat.D
set_option linter.unusedVariables false
open Go.RowKit V Go.Sort

abbrev E : TypeId := 25
theorem cut_lo (a : Option Addr) (len cap n : Nat) (hn : n ≤ cap) : ∀ wx : World,
    (Instr.slice 75 (.slice a len cap) none (some (.int .i64 (n : Int))) none).run Tryz.prog wx = .ok (.slice a n cap) wx := by
  obtain ⟨i, hi, hz0, hz1, hz2⟩ := G.info_of infoD
  intro wx
  have h1 : (Instr.sliceBound (.int .i64 (n : Int)) cap .sliceAcap).run Tryz.prog wx = .ok n wx := by
    rw [run_sliceBound _ _ _ _ _ (by omega) (by omega)]; rfl
  have h0 : (⟨0, 0, none⟩ : Addr).add 0 = ⟨0, 0, none⟩ := rfl
  by_cases hc : cap = 0
  · rw [hc] at h1
    simp [Instr.slice, run_underlying Tryz.underlying75, Instr.sliceBounds, h1, Result.andThen, sizeOf, typeInfo, hi, hc]
  · have : a.map (fun x => x.add 0) = a := by
      rcases a with _ | ⟨b, o, s⟩
      · rfl
      · simp [Addr.add]
    simp [Instr.slice, run_underlying Tryz.underlying75, Instr.sliceBounds, h1, Result.andThen, sizeOf, typeInfo, hi, hc, this]
def off (a : Option Addr) (cap m : Nat) : Option Addr := if cap = m then a else a.map (·.add (m * 2))
theorem cut_hi (a : Option Addr) (len cap m k : Nat) (hk : len = m + k) (hlc : len ≤ cap) : ∀ wx : World,
    (Instr.slice 75 (.slice a len cap) (some (.int .i64 (m : Int))) none none).run Tryz.prog wx = .ok (.slice (off a cap m) k (cap - m)) wx := by
  obtain ⟨i, hi, hz0, hz1, hz2⟩ := G.info_of infoD
  intro wx
  have h2 : (Instr.sliceBound (.int .i64 (m : Int)) len .sliceB).run Tryz.prog wx = .ok m wx := by
    rw [run_sliceBound _ _ _ _ _ (by omega) (by omega)]; rfl
  have e : len - m = k := by omega
  simp [Instr.slice, run_underlying Tryz.underlying75, Instr.sliceBounds, h2, Result.andThen, sizeOf, typeInfo, hi, hz1, e, off]
theorem off_row {w : World} {a : Option Addr} {l : List Dt} (h : RowD w a l) (cap m : Nat) (hlc : l.length ≤ cap) (hm : m ≤ l.length) : RowD w (off a cap m) (l.drop m) := by
  unfold off
  split
  · left
    rw [List.drop_eq_nil_iff]; omega
  · rcases h with rfl | ⟨b, o, rfl, hc⟩
    · exact .inl (by simp)
    · have e : (⟨b, o, none⟩ : Addr).add (m * 2) = ⟨b, o + m * 2, none⟩ := by unfold Addr.add; split <;> simp_all
      rw [Option.map_some, e]
      exact RowD.drop (w := w) (b := b) (o := o) (l := l) (.inr ⟨b, o, rfl, hc⟩) m hm

section
variable {P : Program} {Q : Exit → Act → World → Prop} {S : World → Prop} {l : List Oper} {i : Nat} {op : Oper} {r : Sch.Tr} {a : Act} {w : World}
end
/-- The row of one dot that is written out. -/
theorem lit_one (w : World) (d : Dt) (t : TypeId) : RowD (w.alloc (.cells #[.int .i64 d.1, .int .i64 d.2] t)) (some ⟨w.heap.size, 0, none⟩) [d] := RowD.lit w [d] _ t (0, 0) rfl
end Go.Proofs.YtkcbekebleodaaaGreat.D
end

/-
  The library's BinarySearchFunc by Compare, at a set of dots.
-/
section
namespace Go.Proofs.YtkcbekebleodaaaGreat.D
set_option linter.unusedVariables false
open Go.RowKit V Go.Sort

/-- How far the search is: before i all is less, from j on nothing. -/
structure At (l : List Dt) (d : Dt) (i j : Nat) : Prop where
  ij : i ≤ j
  jn : j ≤ l.length
  low : ∀ k (h : k < l.length), k < i → less l[k] d = true
  high : ∀ k (h : k < l.length), j ≤ k → less l[k] d = false

end Go.Proofs.YtkcbekebleodaaaGreat.D
end
