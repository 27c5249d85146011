/-
  What Put lays, plainly.
-/
import Derived.Test.YteojbekkbgcmnaaGreatMQAdd
namespace Go.Proofs.YteojbekkbgcmnaaGreat.Qs
set_option linter.unusedVariables false
open Go.RowKit V Go.Sort D Nd

theorem fold_self {l : List Nt} (hv : validS l = true) : foldN l [] = l := by
  have h := of_valid (l := l) (by rw [of_self hv])
  have h2 := of_ok h.1 h.2.1
  have h3 := h2.1.symm.trans (of_self hv)
  exact congrArg Prod.fst h3
theorem fold_app (l : List Nt) (n : Nt) : foldN (l ++ [n]) [] = (putN (foldN l []) n).1 := by
  unfold foldN
  rw [List.foldl_append]
  rfl
theorem of_put {l : List Nt} {n : Nt} (hv : validS l = true) (hn : validN n = true) : ofN (l ++ [n]) = putN l n := by
  have h := of_valid (l := l) (by rw [of_self hv])
  have hs := (validS_iff.1 hv).2
  have h1 : ∀ x ∈ l ++ [n], validN x = true := by
    intro x hx
    rcases List.mem_append.1 hx with hx | hx
    · exact h.1 x hx
    · rw [List.mem_singleton.1 hx]; exact hn
  have hat : ∀ d, atS l d = mg l d := by
    intro d
    have h2 := (of_ok h.1 h.2.1).2.2 d
    rwa [fold_self hv] at h2
  by_cases hg : agAll (l ++ [n])
  · have h3 := of_ok h1 hg
    have h4 := step_ok hv hat hn hg
    rw [h3.1, fold_app, fold_self hv, ← h4.1]
  · have hc : ofN (l ++ [n]) = ([], 15) := by
      unfold ofN
      rw [if_pos (List.all_eq_true.2 h1), if_neg (fun e => hg (agB_iff.1 e))]
    rw [hc]
    have hex : ∃ r ∈ l, r.1 = n.1 ∧ agreeN r n = false := by
      refine Classical.byContradiction fun hno => hg ?_
      have hno' : ∀ r ∈ l, r.1 = n.1 → agreeN r n = true := by
        intro r hr e
        cases ha : agreeN r n
        · exact absurd ⟨r, hr, e, ha⟩ hno
        · rfl
      intro a ha b hb e
      rcases List.mem_append.1 ha with ha | ha <;> rcases List.mem_append.1 hb with hb | hb
      · exact h.2.1 a ha b hb e
      · rw [List.mem_singleton.1 hb] at e ⊢; exact hno' a ha e
      · rw [List.mem_singleton.1 ha] at e ⊢; rw [agree_comm]; exact hno' b hb e.symm
      · rw [List.mem_singleton.1 ha, List.mem_singleton.1 hb]; exact agree_self n
    obtain ⟨r, hr, e, ha⟩ := hex
    have hat2 : atS l n.1 = some r := by rw [← e]; exact at_mem hs hr
    have hm : mergeN r n = (zeroN, 15) := by
      unfold mergeN
      rw [h.1 r hr, hn, ha]; rfl
    unfold putN
    rw [hat2]
    simp only [hm]
    rfl
theorem putP_yes {l : List Nt} {n : Nt} (hv : validS l = true) (hn : validN n = true) : putP l n = putN l n := by
  unfold putP
  rw [if_pos hv, of_put hv hn]
end Go.Proofs.YteojbekkbgcmnaaGreat.Qs
