/-
  Kill of the program.
-/
import Derived.Test.YtgopkffgljiblaaGreatQPlc
import Derived.Test.YtgopkffgljiblaaGreatMJnC
import Derived.Test.YtgopkffgljiblaaGreatMEOf
namespace Go.Proofs.YtgopkffgljiblaaGreat.Qs
set_option linter.unusedVariables false
open Go.RowKit V Go.Sort D Nd

def killP (l : List Nt) (dots : List Dt) : List Nt × Int := if (validS l && dots.all validR) = true then killS l dots else ([], 2)
theorem killAt_congr {n : Nt} {a b : List Dt} (h : n.1 ∈ b ↔ n.1 ∈ a) : killAt a n = killAt b n := by
  unfold killAt
  by_cases hm : n.1 ∈ a
  · rw [if_pos hm, if_pos (h.2 hm)]
  · rw [if_neg hm, if_neg (fun k => hm (h.1 k))]
theorem kill_step {l : List Nt} {dots : List Dt} {k i : Nat} (hl : DN l) (hk : k < dots.length) (hi : i < l.length) (e : l[i].1 = dots[k]) {q : Nt} (hq : q = (l.map (killAt (dots.take k)))[i]'(by simpa using hi)) :
    (l.map (killAt (dots.take k))).set i (killN q) = l.map (killAt (dots.take (k + 1))) := by
  subst hq
  have et : dots.take (k + 1) = dots.take k ++ [dots[k]] := by rw [List.take_add_one, List.getElem?_eq_getElem hk]; rfl
  apply List.ext_getElem (by simp)
  intro j h1 h2
  have hj : j < l.length := by simpa using h2
  rw [List.getElem_set]
  by_cases hij : i = j
  · subst hij
    rw [if_pos rfl, List.getElem_map, List.getElem_map]
    have hm : l[i].1 ∈ dots.take (k + 1) := by rw [e, et]; exact List.mem_append_right _ (by simp)
    unfold killAt
    rw [if_pos hm]
    split <;> rfl
  · rw [if_neg hij]
    simp only [List.getElem_map]
    have hne : l[j].1 ≠ dots[k] := fun h => hij (dn_at hl hi hj (e.trans h.symm))
    have hm : l[j].1 ∈ dots.take (k + 1) ↔ l[j].1 ∈ dots.take k := by
      rw [et, List.mem_append, List.mem_singleton]
      exact ⟨fun h => h.resolve_right hne, .inl⟩
    exact killAt_congr hm

end Go.Proofs.YtgopkffgljiblaaGreat.Qs
