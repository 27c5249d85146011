/-
  What the laws of layer 12 ask, plainly.
-/
import Derived.Test.YteojbekkbgcmnabIxLR
namespace Go.Proofs.Yteojbekkbgcmnab.Un
set_option linter.unusedVariables false
open D Nd Qs Wk Ix

section
variable {l : List Nt} (hv : validS l = false)
include hv
theorem vis_no : visP l = ([], 2) := by
  rcases visP_cases l with ⟨h, -⟩ | ⟨-, h⟩
  · rw [hv] at h; cases h
  · exact h
theorem ord_no : orderP l = ([], 2) := by unfold orderP; rw [hv]; rfl
theorem text_no : textP l = ([], 2) := by unfold textP; rw [vis_no hv]; rfl
theorem runesQ_no : runesQ l = ([], 2) := by unfold runesQ; rw [vis_no hv]; rfl
theorem len_no : lenP l = (0, 2) := by unfold lenP; rw [vis_no hv]; rfl
theorem at_no (i : Int) : atP l i = (zeroN, 2) := by
  rw [(at_err (l := l) (i := i) (by rw [vis_no hv]; simp)).1, vis_no hv]
  rfl
omit hv in
theorem errD_two (d : Dt) (i : Int) : errD 2 d i = 2 := by unfold errD firstE; rw [if_neg (by decide)]
theorem of_no (d : Dt) : ofI l d = (0, 2) := by unfold ofI; rw [vis_no hv, errD_two, if_neg (by decide)]
theorem bef_no (d : Dt) : befI l d = (0, 2) := by unfold befI; rw [ord_no hv, errD_two, if_neg (by decide)]
theorem left_no (i : Int) : leftI l i = ((0, 0), 2) := by
  unfold leftI
  rw [vis_no hv]
  have h : ∀ z : Int, firstE [2, z] = 2 := fun z => by unfold firstE; rw [if_neg (by decide)]
  rw [h, if_neg (by decide)]
theorem idots_no (i j : Int) : idotsI l i j = ([], 2) := by
  unfold idotsI partE
  rw [vis_no hv]
  have h : ∀ z : Int, firstE [2, z] = 2 := fun z => by unfold firstE; rw [if_neg (by decide)]
  rw [h, if_neg (by decide)]
end
section
variable {l : List Nt} (hv : validS l = true)
include hv
theorem vis_yes : visP l = (visS l, 0) := by
  rcases visP_cases l with ⟨-, h⟩ | ⟨h, -⟩
  · exact h
  · rw [hv] at h; cases h
theorem ord_yes : orderP l = (orderS l, 0) := by unfold orderP; rw [hv]; rfl
theorem runesQ_yes : runesQ l = (runesS l, 0) := by unfold runesQ; rw [vis_yes hv]; rfl
theorem text_yes : textP l = ((R.encR (runesS l)).1, 0) := by
  unfold textP
  rw [runesQ_yes hv, vis_yes hv, if_pos rfl]
  unfold R.encR
  rw [if_pos (runes_vld hv)]
  rfl
theorem len_yes : lenP l = (((runesS l).length : Int), 0) := by unfold lenP; rw [vis_yes hv, runes_len]
theorem at_out {i : Int} (h : ¬ (0 ≤ i ∧ i < ((visS l).length : Int))) : atP l i = (zeroN, 3) := by
  rw [(at_err (l := l) (i := i) (by rw [vis_yes hv]; exact h)).1, vis_yes hv]
  rfl
theorem at_in {k : Nat} (h : k < (visS l).length) : atP l (k : Int) = ((visS l)[k], 0) := by
  have h2 : k < (visP l).1.length := by rw [vis_yes hv]; exact h
  obtain ⟨h3, -⟩ := at_yes h2
  rw [h3]
  have : ∀ (P : List Nt × Int) (e : P = (visS l, 0)) (h4 : k < P.1.length), P.1[k] = (visS l)[k] := by
    intro P e h4
    subst e
    rfl
  rw [this _ (vis_yes hv) h2]
theorem of_bad {d : Dt} (h : validR d = false) : ofI l d = (0, 2) := by
  have he : ∀ i, errD 0 d i = 2 := fun i => by unfold errD firstE firstE; rw [if_pos rfl, h, if_neg (by decide)]; rfl
  unfold ofI
  rw [vis_yes hv, he, if_neg (by decide)]
theorem bef_bad {d : Dt} (h : validR d = false) : befI l d = (0, 2) := by
  have he : ∀ i, errD 0 d i = 2 := fun i => by unfold errD firstE firstE; rw [if_pos rfl, h, if_neg (by decide)]; rfl
  unfold befI
  rw [ord_yes hv, he, if_neg (by decide)]
omit hv in
theorem err_zero {d : Dt} (h : validR d = true) {i : Int} (hi : 0 ≤ i) : errD 0 d i = 0 := by
  unfold errD firstE firstE firstE
  rw [if_pos rfl, h, if_pos rfl, if_pos rfl, decide_eq_true hi]
  rfl
omit hv in
theorem err_nine {d : Dt} (h : validR d = true) {i : Int} (hi : i < 0) : errD 0 d i = 9 := by
  unfold errD firstE firstE firstE
  rw [if_pos rfl, h, if_pos rfl, if_pos rfl, decide_eq_false (by omega)]
  rfl
theorem of_in {d : Dt} (h : validR d = true) (hi : 0 ≤ idxS (visS l) d) : ofI l d = (idxS (visS l) d, 0) := by
  unfold ofI
  rw [vis_yes hv, err_zero h hi, if_pos rfl]
theorem of_out {d : Dt} (h : validR d = true) (hi : idxS (visS l) d < 0) : ofI l d = (0, 9) := by
  unfold ofI
  rw [vis_yes hv, err_nine h hi, if_neg (by decide)]
theorem bef_in {d : Dt} (h : validR d = true) (hi : 0 ≤ befR l d) : befI l d = (befR l d, 0) := by
  unfold befR at hi ⊢
  split at hi
  · omega
  · rename_i h2
    have he := err_zero h (i := idxS (orderS l) d) (by omega)
    unfold befI
    rw [ord_yes hv]
    simp only [he, h2, if_true, if_false]
theorem bef_out {d : Dt} (h : validR d = true) (hi : befR l d < 0) : befI l d = (0, 9) := by
  unfold befR at hi
  split at hi
  · rename_i h2
    have he := err_nine h (i := idxS (orderS l) d) h2
    unfold befI
    rw [ord_yes hv]
    simp only [he]
    rfl
  · omega
omit hv in
theorem idots_len (l : List Nt) : (idotsS l).length = (visS l).length := by unfold idotsS; rw [List.length_map]
theorem left_out {i : Int} (h : ¬ (0 ≤ i ∧ i ≤ ((idotsS l).length : Int))) : leftI l i = ((0, 0), 3) := by
  rw [idots_len l] at h
  have h2 := (left_err (l := l) (i := i) (by rw [vis_yes hv]; exact h)).1
  rw [h2, vis_yes hv]
  rfl
theorem left_in0 : leftI l 0 = ((0, 0), 0) := by rw [left_zero, vis_yes hv]; rfl
theorem left_in {k : Nat} (h : k < (idotsS l).length) : leftI l ((k : Int) + 1) = ((idotsS l)[k], 0) := by
  have h2 : k < (visP l).1.length := by rw [vis_yes hv]; rw [idots_len l] at h; exact h
  obtain ⟨h3, -⟩ := left_yes h2
  rw [h3]
  have : ∀ (P : List Nt × Int) (e : P = (visS l, 0)) (h4 : k < P.1.length) (L : List Dt) (eL : L = (visS l).map (·.1)) (h5 : k < L.length), P.1[k].1 = L[k] := by
    intro P e h4 L eL h5
    subst e eL
    exact (List.getElem_map ..).symm
  rw [this _ (vis_yes hv) h2 _ rfl h]
  rfl
theorem idots_out {i j : Int} (h : ¬ (0 ≤ i ∧ i ≤ j ∧ j ≤ ((idotsS l).length : Int))) : idotsI l i j = ([], 3) := by
  rw [idots_len l] at h
  have h2 := (part_err (l := l) (i := i) (j := j) (by rw [vis_yes hv]; exact h)).1
  rw [h2, vis_yes hv]
  rfl
theorem idots_in {i j : Nat} (h : i ≤ j) (h2 : j ≤ (idotsS l).length) : idotsI l i j = (((idotsS l).drop i).take (j - i), 0) := by
  rw [idots_len l] at h2
  rw [part_yes h (by rw [vis_yes hv]; exact h2), vis_yes hv, if_pos rfl, List.map_take, List.map_drop]
  rfl
end
end Go.Proofs.Yteojbekkbgcmnab.Un
