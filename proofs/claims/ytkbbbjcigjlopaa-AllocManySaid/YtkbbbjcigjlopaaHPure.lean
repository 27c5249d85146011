/-
  Allocators, plainly: a replica, the last counter and the end; the dots that are taken.
-/
import Derived.Test.YtkbbbjcigjlopaaDPure
namespace Go.Proofs.Ytkbbbjcigjlopaa.H
set_option linter.unusedVariables false
open D

/-- A replica, the last counter, the end. -/
structure Al where
  r : Int
  l : Int
  e : Int
/-- New takes these numbers. -/
def newOk (r l e : Int) : Bool := decide (1 ≤ r) && decide (r ≤ 64) && decide (0 ≤ l) && decide (l ≤ e) && decide (e ≤ 4294967295)
theorem newOk_iff {r l e : Int} : newOk r l e = true ↔ 1 ≤ r ∧ r ≤ 64 ∧ 0 ≤ l ∧ l ≤ e ∧ e ≤ 4294967295 := by
  unfold newOk
  simp [and_assoc]
/-- What is allowed of an allocator. -/
def Va (a : Al) : Prop := 1 ≤ a.r ∧ a.r ≤ 64 ∧ 0 ≤ a.l ∧ a.l ≤ a.e ∧ a.e ≤ 4294967295
/-- The n dots behind a counter. -/
def dotsA (r l : Int) (n : Nat) : List Dt := (List.range n).map fun i : Nat => (r, l + 1 + (i : Int))
theorem dotsA_len (r l : Int) (n : Nat) : (dotsA r l n).length = n := by unfold dotsA; simp
theorem dotsA_at {r l : Int} {n i : Nat} (h : i < (dotsA r l n).length) : (dotsA r l n)[i] = (r, l + 1 + (i : Int)) := by
  simp only [dotsA, List.getElem_map, List.getElem_range]
theorem dotsA_snoc (r l : Int) (n : Nat) : dotsA r l (n + 1) = dotsA r l n ++ [(r, l + 1 + (n : Int))] := by
  unfold dotsA
  rw [List.range_succ, List.map_append]
  rfl
theorem dotsA_cons (r l : Int) (n : Nat) : dotsA r l (n + 1) = (r, l + 1) :: dotsA r (l + 1) n := by
  unfold dotsA
  rw [List.range_succ_eq_map, List.map_cons, List.map_map]
  congr 1
  · simp
  · apply List.map_congr_left
    intro i _
    simp only [Function.comp]
    congr 1
    omega
theorem dotsA_zero (r l : Int) : dotsA r l 0 = [] := rfl
/-- Take: the state behind it, the dots, the error. -/
def takeA (a : Al) (n : Int) : Al × List Dt × Int :=
  if n < 0 ∨ 65536 < n then (a, [], 2) else if a.e - a.l < n then (a, [], 14) else (⟨a.r, a.l + n, a.e⟩, dotsA a.r a.l n.toNat, 0)
def extA (a : Al) (e : Int) : Al × Int := if e < a.e ∨ 4294967295 < e then (a, 2) else (⟨a.r, a.l, e⟩, 0)
def passA (a : Al) (c : Int) : Al × Int := if c < 0 then (a, 2) else if a.e < c then (a, 3) else if a.l < c then (⟨a.r, c, a.e⟩, 0) else (a, 0)
theorem take_va {a : Al} {n : Int} (h : Va a) : Va (takeA a n).1 := by
  unfold takeA
  obtain ⟨h1, h2, h3, h4, h5⟩ := h
  split
  · exact ⟨h1, h2, h3, h4, h5⟩
  · split
    · exact ⟨h1, h2, h3, h4, h5⟩
    · refine ⟨h1, h2, ?_, ?_, h5⟩ <;> simp only <;> omega
theorem ext_va {a : Al} {n : Int} (h : Va a) : Va (extA a n).1 := by
  unfold extA
  obtain ⟨h1, h2, h3, h4, h5⟩ := h
  split
  · exact ⟨h1, h2, h3, h4, h5⟩
  · refine ⟨h1, h2, h3, ?_, ?_⟩ <;> simp only <;> omega
theorem pass_va {a : Al} {n : Int} (h : Va a) : Va (passA a n).1 := by
  unfold passA
  obtain ⟨h1, h2, h3, h4, h5⟩ := h
  split
  · exact ⟨h1, h2, h3, h4, h5⟩
  · split
    · exact ⟨h1, h2, h3, h4, h5⟩
    · split
      · refine ⟨h1, h2, ?_, ?_, h5⟩ <;> simp only <;> omega
      · exact ⟨h1, h2, h3, h4, h5⟩
/-- One dot is the first that is left. -/
theorem take_one {a : Al} : takeA a 1 = if a.e - a.l < 1 then (a, [], 14) else (⟨a.r, a.l + 1, a.e⟩, [(a.r, a.l + 1)], 0) := by
  unfold takeA
  rw [if_neg (by omega)]
  split
  · rfl
  · show _ = _
    have : dotsA a.r a.l (1 : Int).toNat = [(a.r, a.l + 1)] := by
      show dotsA a.r a.l 1 = _
      rw [dotsA_cons, dotsA_zero]
    rw [this]
/-- n dots are the same as one dot n times. -/
theorem take_next {r l e : Int} {n : Nat} (hn : n < 65536) (h : l + n < e) : takeA ⟨r, l, e⟩ ((n : Int) + 1) = (⟨r, l + 1 + n, e⟩, (r, l + 1) :: dotsA r (l + 1) n, 0) := by
  unfold takeA
  simp only
  rw [if_neg (by omega), if_neg (by omega), show ((n : Int) + 1).toNat = n + 1 by omega, dotsA_cons]
  congr 2
  omega
theorem dotsA_up {r l : Int} {n : Nat} {x : Dt} (h : x ∈ dotsA r l n) : x.1 = r ∧ l < x.2 ∧ x.2 ≤ l + n := by
  obtain ⟨i, hi, rfl⟩ := List.mem_map.1 h
  have := List.mem_range.1 hi
  refine ⟨rfl, ?_, ?_⟩ <;> simp only <;> omega
end Go.Proofs.Ytkbbbjcigjlopaa.H
