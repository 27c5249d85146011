/-
  The program's pass over a cloud, plainly; missing dots.
-/
import Derived.Test.YtefnoajkdhgonaaFPure
import Derived.Test.YtefnoajkdhgonaaEProg
namespace Go.Proofs.Ytefnoajkdhgonaa.F
set_option linter.unusedVariables false
open D E

/-- One dot of the pass. -/
def stp (s : Ct) (d : Dt) : Ct := if hasV s.1 d = true then s else if d.2 = getV s.1 d.1 + 1 then (raiseR s.1 d, s.2) else (s.1, s.2 ++ [d])
theorem pass_fold : ∀ (cl v rest : List Dt), passR v rest cl = cl.foldl stp (v, rest)
  | [], v, rest => rfl
  | d :: t, v, rest => by
    rw [passR, List.foldl_cons, stp]
    split
    · exact pass_fold t v rest
    · split
      · exact pass_fold t (raiseR v d) rest
      · exact pass_fold t v (rest ++ [d])
/-- What the program keeps, too: the dots of the beginnings. -/
def stq (s : Ct × List Dt) (d : Dt) : Ct × List Dt := (stp s.1 d, if nearC s.1.1 d = true then s.2 ++ [d] else s.2)
def stK (v cl : List Dt) (k : Nat) : Ct × List Dt := (cl.take k).foldl stq ((v, []), v)
theorem stK_zero (v cl : List Dt) : stK v cl 0 = ((v, []), v) := rfl
theorem stK_succ {v cl : List Dt} {k : Nat} (h : k < cl.length) : stK v cl (k + 1) = stq (stK v cl k) cl[k] := by
  unfold stK
  rw [List.take_succ_eq_append_getElem h, List.foldl_append]
  rfl
theorem stq_fst : ∀ (l : List Dt) (s : Ct × List Dt), (l.foldl stq s).1 = l.foldl stp s.1
  | [], s => rfl
  | d :: t, s => by rw [List.foldl_cons, List.foldl_cons, stq_fst t]; rfl
theorem stK_end (v cl : List Dt) : (stK v cl cl.length).1 = compC (v, cl) := by
  unfold stK compC
  rw [List.take_length, stq_fst, pass_fold]
theorem of_snoc (l : List Dt) (d : Dt) : ofR (l ++ [d]) = raiseR (ofR l) d := by
  unfold ofR mergeR
  rw [List.foldl_append]
  rfl
/-- What holds between two dots. -/
structure Inv (v cl : List Dt) (k : Nat) : Prop where
  vd : Vd (stK v cl k).1.1
  bg : ofR (stK v cl k).2 = (stK v cl k).1.1
  bv : ∀ x ∈ (stK v cl k).2, validR x = true
  bl : (stK v cl k).2.length ≤ v.length + k
  rl : (stK v cl k).1.2.length ≤ k
theorem inv_zero {v cl : List Dt} (hv : Vd v) : Inv v cl 0 := by
  refine ⟨?_, ?_, ?_, ?_, ?_⟩
  · exact hv
  · rw [stK_zero]; exact merge_nil hv
  · exact hv.1
  · rw [stK_zero]; exact Nat.le_refl _
  · rw [stK_zero]; exact Nat.le_refl _
theorem near_yes {v : List Dt} {d : Dt} (hd : validR d = true) : nearC v d = true ↔ d.2 ≤ getV v d.1 + 1 := by
  have h := near_no (v := v) hd
  rcases hn : nearC v d with _ | _
  · have := h.1 hn
    constructor
    · intro e; cases e
    · intro e; omega
  · constructor
    · intro _
      rcases Int.lt_or_le (getV v d.1 + 1) d.2 with k | k
      · rw [h.2 k] at hn; cases hn
      · exact k
    · intro _; rfl
theorem near_dec {v : List Dt} {d : Dt} (hd : validR d = true) : nearC v d = decide (d.2 ≤ getV v d.1 + 1) := by
  rw [Bool.eq_iff_iff, near_yes hd, decide_eq_true_eq]
theorem stp_near {s : Ct} {d : Dt} (h : nearC s.1 d = true) : stp s d = (raiseR s.1 d, s.2) := by
  unfold stp
  by_cases h1 : hasV s.1 d = true
  · rw [if_pos h1, raiseR, if_pos h1]
  · rw [if_neg h1, if_pos]
    unfold nearC at h
    simpa [h1] using h
theorem stp_far {s : Ct} {d : Dt} (h : nearC s.1 d = false) : stp s d = (s.1, s.2 ++ [d]) := by
  unfold nearC at h
  simp only [Bool.or_eq_false_iff, decide_eq_false_iff_not] at h
  unfold stp
  rw [h.1, if_neg (by simp), if_neg h.2]
theorem inv_succ {v cl : List Dt} {k : Nat} (hi : Inv v cl k) (h : k < cl.length) (hd : validR cl[k] = true) : Inv v cl (k + 1) := by
  have h1 := hi.vd
  have h2 := hi.bg
  have h3 := hi.bv
  have h4 := hi.bl
  have h5 := hi.rl
  have e := stK_succ (v := v) h
  rcases hn : nearC (stK v cl k).1.1 cl[k] with _ | _
  · have e2 : stK v cl (k + 1) = (((stK v cl k).1.1, (stK v cl k).1.2 ++ [cl[k]]), (stK v cl k).2) := by
      rw [e, stq, stp_far hn, hn]
      rfl
    refine ⟨?_, ?_, ?_, ?_, ?_⟩ <;> rw [e2]
    · exact h1
    · exact h2
    · exact h3
    · show (stK v cl k).2.length ≤ _; omega
    · show ((stK v cl k).1.2 ++ [cl[k]]).length ≤ _; simp; omega
  · have e2 : stK v cl (k + 1) = ((raiseR (stK v cl k).1.1 cl[k], (stK v cl k).1.2), (stK v cl k).2 ++ [cl[k]]) := by
      rw [e, stq, stp_near hn, hn]
      rfl
    refine ⟨?_, ?_, ?_, ?_, ?_⟩ <;> rw [e2]
    · exact raise_vd h1 hd
    · show ofR ((stK v cl k).2 ++ [cl[k]]) = raiseR (stK v cl k).1.1 cl[k]
      rw [of_snoc, h2]
    · intro x hx
      rcases List.mem_append.1 hx with hx | hx
      · exact h3 x hx
      · rw [List.mem_singleton.1 hx]; exact hd
    · show ((stK v cl k).2 ++ [cl[k]]).length ≤ _; simp; omega
    · show (stK v cl k).1.2.length ≤ _; omega
/-- The counters behind a near dot. -/
theorem near_get {v cl : List Dt} {k : Nat} (hi : Inv v cl k) (h : k < cl.length) (hd : validR cl[k] = true) (hn : nearC (stK v cl k).1.1 cl[k] = true) (r : Int) :
    getV (stK v cl (k + 1)).1.1 r = if r = cl[k].1 then max (getV (stK v cl k).1.1 r) cl[k].2 else getV (stK v cl k).1.1 r := by
  rw [stK_succ h, stq, stp_near hn]
  exact raise_get hi.vd hd r
theorem stK_near {v cl : List Dt} {k : Nat} (h : k < cl.length) (hn : nearC (stK v cl k).1.1 cl[k] = true) : (stK v cl (k + 1)).1.2 = (stK v cl k).1.2 ∧ (stK v cl (k + 1)).2 = (stK v cl k).2 ++ [cl[k]] := by
  rw [stK_succ h, stq, stp_near hn, hn]
  exact ⟨rfl, rfl⟩
theorem stK_far {v cl : List Dt} {k : Nat} (h : k < cl.length) (hn : nearC (stK v cl k).1.1 cl[k] = false) : (stK v cl (k + 1)).1.2 = (stK v cl k).1.2 ++ [cl[k]] ∧ (stK v cl (k + 1)).2 = (stK v cl k).2 ∧ (stK v cl (k + 1)).1.1 = (stK v cl k).1.1 := by
  rw [stK_succ h, stq, stp_far hn, hn]
  exact ⟨rfl, rfl, rfl⟩
theorem inv_all {v cl : List Dt} (hv : Vd v) (hd : ∀ x ∈ cl, validR x = true) : ∀ k, k ≤ cl.length → Inv v cl k
  | 0, _ => inv_zero hv
  | k + 1, h => inv_succ (inv_all hv hd k (by omega)) (by omega) (hd _ (List.getElem_mem _))
/-- At the end: the vector of the beginnings. -/
theorem end_of {v cl : List Dt} (hv : Vd v) (hd : ∀ x ∈ cl, validR x = true) : ofB (stK v cl cl.length).2 = ((compC (v, cl)).1, 0) := by
  have hi := inv_all hv hd cl.length (Nat.le_refl _)
  unfold ofB
  rw [if_pos (by rw [List.all_eq_true]; exact hi.bv), hi.bg, stK_end]
theorem end_rest (v cl : List Dt) : (stK v cl cl.length).1.2 = (compC (v, cl)).2 := by rw [stK_end]

/-! ### What Compact, Union, Of, Add return -/
def compB (c : Ct) : Ct × Int := if validC c = true then (compC c, 0) else (([], []), 2)
def unionB (a b : Ct) : Ct × Int := if validC a = true ∧ validC b = true then (unionC a b, 0) else (([], []), 2)
def madeB (l : List Dt) : Ct × Int := compB ([], setR l)
def addB (c : Ct) (l : List Dt) : Ct × Int := unionB c ([], setR l)
theorem valid_none (l : List Dt) : validC ([], setR l) = l.all validR := by
  rw [Bool.eq_iff_iff, valid_vc, List.all_eq_true]
  constructor
  · rintro ⟨-, -, h⟩ x hx
    exact h x (mem_set.2 hx)
  · intro h
    exact ⟨vd_nil, srt_set l, fun x hx => h x (mem_set.1 hx)⟩
theorem union_nil_set {l m : List Dt} : unionR l (setR m) = unionR l m := union_eq (srt_union _ _) fun x => by rw [mem_union, mem_set]
theorem add_eq {c : Ct} {l : List Dt} (hc : Vc c) (hl : ∀ x ∈ l, validR x = true) : addB c l = (addC c l, 0) := by
  unfold addB unionB
  rw [if_pos ⟨(valid_vc c).2 hc, by rw [valid_none, List.all_eq_true]; exact hl⟩]
  unfold unionC addC
  rw [union_nil_set]
  rfl
theorem made_eq {l : List Dt} (hl : ∀ x ∈ l, validR x = true) : madeB l = (addC ([], []) l, 0) := by
  unfold madeB compB
  rw [if_pos (by rw [valid_none, List.all_eq_true]; exact hl)]
  unfold addC
  rw [show setR l = unionR [] l from union_eq (srt_set l) fun x => by rw [mem_set]; simp]
theorem add_no1 {c : Ct} {l : List Dt} (hc : validC c = false) : addB c l = (([], []), 2) := by
  unfold addB unionB
  rw [if_neg (by rw [hc]; simp)]
theorem add_no2 {c : Ct} {l : List Dt} (hl : l.all validR = false) : addB c l = (([], []), 2) := by
  unfold addB unionB
  rw [if_neg (by rw [valid_none, hl]; simp)]
theorem made_no {l : List Dt} (hl : l.all validR = false) : madeB l = (([], []), 2) := by
  unfold madeB compB
  rw [if_neg (by rw [valid_none, hl]; simp)]

/-! ### What is missing -/
def missR (c : Ct) (l : List Dt) : List Dt := (l.filter fun d => !hasC c d).foldl ins []
theorem mem_miss {c : Ct} {l : List Dt} {x : Dt} : x ∈ missR c l ↔ x ∈ l ∧ hasC c x = false := by
  unfold missR
  rw [mem_fold]
  simp
theorem srt_miss (c : Ct) (l : List Dt) : Srt (missR c l) := srt_fold _ srt_nil
theorem miss_eq {c : Ct} {l m : List Dt} (hm : Srt m) (h : ∀ x, x ∈ m ↔ x ∈ l ∧ hasC c x = false) : m = missR c l := srt_ext hm (srt_miss c l) fun x => by rw [mem_miss]; exact h x
theorem miss_filter (c : Ct) (l : List Dt) : (setR l).filter (fun d => !hasC c d) = missR c l := miss_eq ((srt_set l).filter _) fun x => by
  rw [List.mem_filter, mem_set]
  simp

/-! ### Within -/
def withB (a b : Ct) : Bool × Int := if validC a = true ∧ validC b = true then (withinC a b, 0) else (false, 2)
theorem ord_le {a b : List Dt} (ha : Vd a) (hb : Vd b) : ordR a b = (orderR a b, 0) ∧ decide (orderR a b ≤ 0) = withinV a b := by
  constructor
  · unfold ordR
    rw [if_pos ⟨(valid_vd a).2 ha, (valid_vd b).2 hb⟩]
  · unfold orderR
    rcases withinV a b with _ | _
    · rcases withinV b a with _ | _ <;> rfl
    · rcases withinV b a with _ | _ <;> rfl
theorem any_miss (l : List Dt) (c : Ct) : (l.any fun d => !hasC c d) = !(l.all fun d => hasC c d) := by
  rw [← List.not_all_eq_any_not]
theorem with_prog {a b : Ct} : withinC a b = (withinV a.1 (compC b).1 && !(a.2.any fun d => !hasC (compC b) d)) := by
  rw [any_miss, Bool.not_not, Bool.and_comm]
  rfl
theorem comp_prog {c : Ct} (h : validC c = true) : isCompR c = !(c.2.any fun d => decide (d.2 ≤ getV c.1 d.1 + 1)) := by
  have hv := (valid_vc c).1 h
  unfold isCompR
  rw [h, Bool.and_true]
  rw [Bool.eq_iff_iff, List.all_eq_true, Bool.not_eq_true', List.any_eq_false]
  constructor
  · intro k x hx
    rw [← near_dec (hv.2.2 x hx)]
    have := k x hx
    simpa using this
  · intro k x hx
    have := k x hx
    rw [← near_dec (hv.2.2 x hx)] at this
    simpa using this
theorem comp_inv {c : Ct} (h : validC c = false) : isCompR c = false := by
  unfold isCompR
  rw [h, Bool.and_false]
end Go.Proofs.Ytefnoajkdhgonaa.F
