/-
  What the last laws of the walk ask, plainly.
-/
import Derived.Test.YteojbekkbgcmnaaMWRfP
namespace Go.Proofs.Yteojbekkbgcmnaa.Un
set_option linter.unusedVariables false
open D Nd Qs Wk

/-- The depths, in the order of the tree. -/
def depS (l : List Nt) : List Int := (allD l).map fun x => (x.1 : Int)
theorem dep_len (l : List Nt) : (depS l).length = (orderS l).length := by
  unfold depS
  rw [← all_snd l, List.length_map, List.length_map]
theorem dep_at {l : List Nt} (hv : validS l = true) (k : Nat) (hk : k < (orderS l).length) (hd : k < (depS l).length) : ∃ p, pathR l (orderS l)[k].1 = some p ∧ (p.length : Int) - 1 = (depS l)[k] ∧ p.length ≤ l.length + 1 ∧ 0 < p.length := by
  have hka : k < (allD l).length := by unfold depS at hd; simpa using hd
  have he : allD l = (allD l).take k ++ (allD l)[k] :: (allD l).drop (k + 1) := at_parts2 hka
  obtain ⟨h1, h2⟩ := all_path hv he
  have ho : (orderS l)[k] = (allD l)[k].2 := by
    have : ∀ (L : List Nt) (e : L = (allD l).map (·.2)) (h : k < L.length), L[k] = (allD l)[k].2 := by
      intro L e h
      subst e
      simp
    exact this _ (all_snd l).symm hk
  refine ⟨_, by rw [ho]; exact pt_iff.1 h2, ?_, Nat.le_trans (pt_len h2) (Nat.le_succ _), ?_⟩
  · have := all_depth hv he h2
    have e2 : (depS l)[k] = ((allD l)[k].1 : Int) := by
      have : ∀ (L : List Int) (e : L = (allD l).map (fun x => (x.1 : Int))) (h : k < L.length), L[k] = ((allD l)[k].1 : Int) := by
        intro L e h
        subst e
        exact List.getElem_map ..
      exact this _ rfl hd
    rw [this, e2]
    omega
  · rw [all_depth hv he h2]
    omega

theorem lit64w {z : Int} (h1 : -9223372036854775808 ≤ z) (h2 : z ≤ 9223372036854775807) : (Lit.int .i64 z).wf = true := by
  simp only [Lit.wf, IntKind.min, IntKind.max, IntKind.signed, IntKind.bits]
  simp
  omega
theorem fit_validD {d : Dt} (h : validR d = true) : fitD d := by
  unfold validR at h
  simp only [Bool.and_eq_true, decide_eq_true_eq] at h
  exact ⟨lit64w (by omega) (by omega), lit64w (by omega) (by omega)⟩
/-! ### What WalkHolds asks of each node -/
section
variable {l : List Nt} (hv : validS l = true) (i : Nat) (hi : i < (orderS l).length)
include hv hi
theorem hold_in : (orderS l)[i] ∈ l ∧ ∃ p, Pt l (orderS l)[i].1 p := (order_mem hv).1 (List.getElem_mem hi)
theorem hold_valid : validR (orderS l)[i].1 = true ∧ rootR (orderS l)[i].1 = false := by
  have h := (validS_iff.1 hv).1 _ (hold_in hv i hi).1
  exact ⟨(valid_vn.1 h).1, not_root h⟩
theorem hold_lost : ¬ (orderS l)[i].1 ∈ lostS l := fun h => by
  have hs := (validS_iff.1 hv).2
  obtain ⟨h1, p, h2⟩ := hold_in hv i hi
  obtain ⟨n, -, k2, k3⟩ := (mem_lost hs).1 h
  exact k2 ⟨p, by rw [k3]; exact h2⟩
theorem hold_up (h : rootR (orderS l)[i].2.1 = false) : (orderS l)[i].2.1 ∈ ((orderS l).take i).map (·.1) := by
  rcases (order_at hv i hi).1 with k | ⟨y, k1, k2⟩
  · rw [k] at h; cases h
  · exact List.mem_map.2 ⟨y, k1, k2⟩
theorem hold_child {c : Nt} {t : List Nt} (h : childS l (orderS l)[i].1 = c :: t) : ∃ h2 : i + 1 < (orderS l).length, (orderS l)[i + 1] = c := by
  obtain ⟨h1, p, hp⟩ := hold_in hv i hi
  obtain ⟨-, k1, k2⟩ := order_at hv i hi
  have hb : ∃ r, Bw l (orderS l)[i].1 = c :: r := by
    rw [bw_eq hv hp, h, List.flatMap_cons]
    exact ⟨_, rfl⟩
  obtain ⟨r, hr⟩ := hb
  rw [hr] at k1 k2
  rw [List.length_cons] at k1
  refine ⟨by omega, ?_⟩
  have := congrArg (fun x => x[0]?) k2
  simp only [List.length_cons, List.getElem?_cons_zero] at this
  rw [List.getElem?_take_of_lt (by omega), List.getElem?_drop, Nat.add_zero, List.getElem?_eq_getElem (by omega)] at this
  exact Option.some.inj this
theorem hold_below : i + 1 + (dotsB l (orderS l)[i].1).length ≤ (orderS l).length ∧ dotsB l (orderS l)[i].1 = (((orderS l).drop (i + 1)).take (dotsB l (orderS l)[i].1).length).map (·.1) := by
  obtain ⟨-, k1, k2⟩ := order_at hv i hi
  unfold dotsB
  rw [List.length_map]
  exact ⟨k1, by rw [k2]⟩
theorem hold_path : ∃ p, pathP l (orderS l)[i].1 = (p, 0) ∧ 0 < p.length ∧ p.length ≤ l.length ∧ (∀ h : p.length - 1 < p.length, p[p.length - 1] = (orderS l)[i].1) ∧ ∀ j (hj : j < p.length), ∃ x, findS l p[j] = (x, 0) ∧ fitD p[j] ∧ x.2.1 = if h0 : j = 0 then (0, 0) else p[j - 1]'(by omega) := by
  obtain ⟨h1, p, hp⟩ := hold_in hv i hi
  obtain ⟨h2, h3⟩ := hold_valid hv i hi
  obtain ⟨q, hq⟩ := path_last hp h3
  refine ⟨p, ?_, by rw [hq]; simp, pt_len hp, fun h => ?_, fun j hj => ?_⟩
  · unfold pathP
    rw [if_pos (by rw [hv, h2]; rfl), pathQ_some h3 hp]
    rfl
  · subst hq
    simp
  · obtain ⟨x, k1, k2⟩ := path_at hp j hj
    obtain ⟨k3, k4⟩ := at_some k1
    have hvd : validR p[j] = true := by rw [← k4]; exact (valid_vn.1 ((validS_iff.1 hv).1 _ k3)).1
    refine ⟨x, ?_, ?_, k2⟩
    · unfold findS
      rw [if_pos (by rw [hv, hvd]; rfl), k1]
    · exact fit_validD hvd
end
end Go.Proofs.Yteojbekkbgcmnaa.Un
