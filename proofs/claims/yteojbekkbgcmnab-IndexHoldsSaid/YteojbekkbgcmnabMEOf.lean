/-
  The program's Of.
-/
import Derived.Test.YteojbekkbgcmnabECnt
import Derived.Test.YteojbekkbgcmnabEConcat
import Derived.Test.YteojbekkbgcmnabMDText
import Derived.Test.YteojbekkbgcmnabMDRefB
import Derived.Test.YteojbekkbgcmnabDHas

section
namespace Go.Proofs.Yteojbekkbgcmnab.E
set_option linter.unusedVariables false
open Go.RowKit V Go.Sort D

/-- 65 counters in memory, that may be written. -/
def Cm (w : World) (g : Nat) (f : Nat → Int) : Prop := ∀ i, i < 65 → w.cell? ⟨g, i, none⟩ = some (.int .i64 (f i)) ∧ w.frozen? ⟨g, i, none⟩ = false
theorem Cm.lt {w : World} {g : Nat} {f : Nat → Int} (h : Cm w g f) : g < w.heap.size := lt_of_cell (h 0 (by omega)).1
theorem Cm.keep {w w' : World} {g : Nat} {f : Nat → Int} (h : Cm w g f) (hb : Below w.heap.size w w') : Cm w' g f := fun i hi =>
  ⟨(hb.cell (p := ⟨g, i, none⟩) h.lt).trans (h i hi).1, (hb.frozen (p := ⟨g, i, none⟩) h.lt).trans (h i hi).2⟩
/-- One counter set. -/
def upd (f : Nat → Int) (k : Nat) (x : Int) : Nat → Int := fun i => if i = k then x else f i
theorem Cm.set {w : World} {g : Nat} {f : Nat → Int} (h : Cm w g f) {k : Nat} (hk : k < 65) (x : Int) : Cm (w.setCell ⟨g, k, none⟩ (.int .i64 x)) g (upd f k x) := fun i hi => by
  refine ⟨?_, ?_⟩
  · unfold upd
    by_cases e : i = k
    · subst e
      rw [if_pos rfl]
      exact World.cell?_setCell_same' _ _ _ (by rw [(h i hi).1]; rfl)
    · rw [if_neg e]
      rw [World.cell?_setCell_other _ _ _ _ (by simp)]
      exact (h i hi).1
  · rw [World.frozen?_setCell]
    exact (h i hi).2
def cellsOf (f : Nat → Int) : List Value := (List.range 65).map fun i => .int .i64 (f i)
theorem cn_of (f : Nat → Int) : Cn (cellsOf f) f := by
  unfold Cn cellsOf
  refine ⟨by simp, fun i hi => ?_⟩
  rw [List.getElem?_map, List.getElem?_range hi]
  rfl
theorem Cm.range {w : World} {g : Nat} {f : Nat → Int} (h : Cm w g f) : w.rangeAt g 0 (cellsOf f) := fun j v hj => by
  have hl : j < 65 := by
    have := (List.getElem?_eq_some_iff.1 hj).1
    rwa [(cn_of f).1] at this
  rw [(cn_of f).2 j hl] at hj
  cases hj
  rw [Nat.zero_add]
  exact (h j hl).1

/-- The greatest counter of each replica. -/
def lastF (l : List Dt) : Nat → Int := l.foldl (fun f d => upd f d.1.toNat (max (f d.1.toNat) d.2)) fun _ => 0

theorem last_take {l : List Dt} {k : Nat} (h : k < l.length) : lastF (l.take (k + 1)) = upd (lastF (l.take k)) l[k].1.toNat (max (lastF (l.take k) l[k].1.toNat) l[k].2) := by
  unfold lastF
  rw [List.take_succ_eq_append_getElem h, List.foldl_append]
  rfl
/-! ### The same as the reference -/
theorem vec_mem {f : Nat → Int} {k : Nat} {x : Dt} : x ∈ vecFrom f k ↔ ∃ i, k ≤ i ∧ i < 65 ∧ 0 < f i ∧ x = ((i : Int), f i) := by
  unfold vecFrom
  rw [List.mem_filterMap]
  constructor
  · rintro ⟨i, hi, h⟩
    rw [List.mem_range'_1] at hi
    split at h
    · rename_i hp
      cases h
      exact ⟨i, by omega, by omega, hp, rfl⟩
    · cases h
  · rintro ⟨i, h1, h2, h3, rfl⟩
    exact ⟨i, by rw [List.mem_range'_1]; omega, by rw [if_pos h3]⟩
theorem vec_inc (f : Nat → Int) : ∀ (m k : Nat), 65 - k = m → Inc (vecFrom f k)
  | 0, k, h => by rw [vec_end (by omega)]; exact List.Pairwise.nil
  | m + 1, k, h => by
    have ih := vec_inc f m (k + 1) (by omega)
    rw [vec_step (by omega)]
    unfold Inc at *
    split
    · rw [List.singleton_append, List.pairwise_cons]
      refine ⟨fun x hx => ?_, ih⟩
      obtain ⟨i, h1, -, -, rfl⟩ := vec_mem.1 hx
      show ((k : Nat) : Int) < (i : Int)
      omega
    · exact ih
theorem vec_get {f : Nat → Int} (hf : ∀ i, i < 65 → 0 ≤ f i) (r : Int) : getV (vecFrom f 0) r = if 0 ≤ r ∧ r < 65 then f r.toNat else 0 := by
  by_cases h : 0 ≤ r ∧ r < 65
  · rw [if_pos h]
    by_cases hp : 0 < f r.toNat
    · have hm : (r, f r.toNat) ∈ vecFrom f 0 := vec_mem.2 ⟨r.toNat, Nat.zero_le _, by omega, hp, by rw [Int.toNat_of_nonneg h.1]⟩
      exact get_some (vec_inc f _ 0 rfl) hm
    · rw [get_none]
      · have := hf r.toNat (by omega); omega
      · intro x hx e
        obtain ⟨i, -, h2, h3, rfl⟩ := vec_mem.1 hx
        subst e
        simp at hp
        omega
  · rw [if_neg h, get_none]
    intro x hx e
    obtain ⟨i, -, h2, h3, rfl⟩ := vec_mem.1 hx
    subst e
    exact h ⟨by omega, by show (i : Int) < 65; omega⟩
theorem last_both : ∀ (l : List Dt) (f : Nat → Int), (∀ x ∈ l, validR x = true) → (∀ i, 0 ≤ f i ∧ f i ≤ 4294967295) → f 0 = 0 →
    (∀ i, 0 ≤ (l.foldl (fun f d => upd f d.1.toNat (max (f d.1.toNat) d.2)) f) i ∧ (l.foldl (fun f d => upd f d.1.toNat (max (f d.1.toNat) d.2)) f) i ≤ 4294967295) ∧ (l.foldl (fun f d => upd f d.1.toNat (max (f d.1.toNat) d.2)) f) 0 = 0 ∧
    ∀ i : Nat, (l.foldl (fun f d => upd f d.1.toNat (max (f d.1.toNat) d.2)) f) i = l.foldl (fun n d => if (i : Int) = d.1 then max n d.2 else n) (f i)
  | [], f, _, hf, h0 => ⟨hf, h0, fun _ => rfl⟩
  | d :: t, f, hl, hf, h0 => by
    have hv := valid_iff.1 (hl d (by simp))
    obtain ⟨h1, h2, h3⟩ := last_both t (upd f d.1.toNat (max (f d.1.toNat) d.2)) (fun x hx => hl x (by simp [hx])) (fun i => by
      have := hf i
      have := hf d.1.toNat
      unfold upd
      split <;> omega) (by unfold upd; rw [if_neg (by omega)]; exact h0)
    refine ⟨h1, h2, fun i => ?_⟩
    rw [List.foldl_cons, List.foldl_cons, h3 i]
    congr 1
    unfold upd
    by_cases e : i = d.1.toNat
    · rw [if_pos e, if_pos (by omega), e]
    · rw [if_neg e, if_neg (by omega)]
theorem of_plain {l : List Dt} (h : ∀ j (hj : j < l.length), validR l[j] = true) : ofB l = (vecFrom (lastF l) 0, 0) := by
  have hl : ∀ x ∈ l, validR x = true := fun x hx => by
    obtain ⟨j, hj, rfl⟩ := List.mem_iff_getElem.1 hx
    exact h j hj
  obtain ⟨h1, h2, h3⟩ := last_both l (fun _ => 0) hl (fun _ => by omega) rfl
  have e : (l.foldl (fun f d => upd f d.1.toNat (max (f d.1.toNat) d.2)) fun _ => 0) = lastF l := rfl
  rw [e] at h1 h2 h3
  have hm := merge_both (b := l) vd_nil hl
  rw [all_yes h]
  congr 1
  refine vd_ext hm.1 ⟨fun x hx => ?_, vec_inc _ _ 0 rfl⟩ fun r => ?_
  · obtain ⟨i, -, h5, h6, rfl⟩ := vec_mem.1 hx
    rw [valid_iff]
    have := h1 i
    have hi : i ≠ 0 := by rintro rfl; omega
    refine ⟨?_, ?_, ?_, ?_⟩
    · show (0 : Int) < (i : Int); omega
    · show (i : Int) ≤ 64; omega
    · exact h6
    · exact this.2
  · rw [vec_get fun i _ => (h1 i).1]
    have hmr := hm.2 r
    by_cases hr : 0 ≤ r ∧ r < 65
    · rw [if_pos hr, h3, Int.toNat_of_nonneg hr.1]
      exact hmr
    · rw [if_neg hr]
      refine hmr.trans ?_
      have : ∀ (t : List Dt) (n : Int), (∀ x ∈ t, validR x = true) → t.foldl (fun n d => if r = d.1 then max n d.2 else n) n = n := by
        intro t
        induction t with
        | nil => intro n _; rfl
        | cons d t ih =>
          intro n ht
          have hv := valid_iff.1 (ht d (by simp))
          rw [List.foldl_cons, if_neg (by omega)]
          exact ih n fun x hx => ht x (by simp [hx])
      exact this l _ hl

/-- A box with a dot. -/
def Bd (g : Nat) (x y : Int) (w : World) : Prop := w.cell? ⟨g, 0, none⟩ = some (.int .i64 x) ∧ w.cell? ⟨g, 1, none⟩ = some (.int .i64 y)
end Go.Proofs.Yteojbekkbgcmnab.E
end

/-
  The program's Merge and Raise.
-/
section
namespace Go.Proofs.Yteojbekkbgcmnab.E
set_option linter.unusedVariables false
open Go.RowKit V Go.Sort D

theorem merge_nil {a : List Dt} (ha : Vd a) : mergeR [] a = a := (merge_eq vd_nil ha ha fun r => by have := get_ge ha r; show _ = max 0 _; omega).symm
theorem of_app {a b : List Dt} (ha : Vd a) (hb : Vd b) : ofB (a ++ b) = (mergeR a b, 0) := by
  unfold ofB
  rw [if_pos]
  · unfold ofR mergeR
    rw [List.foldl_append]
    congr 1
    have := merge_nil ha
    unfold mergeR at this
    rw [this]
  · rw [List.all_eq_true]
    intro x hx
    rcases List.mem_append.1 hx with h | h
    · exact ha.1 x h
    · exact hb.1 x h
def mergeB (a b : List Dt) : List Dt × Int := if validV a = true ∧ validV b = true then (mergeR a b, 0) else ([], 2)
def raiseB (v : List Dt) (d : Dt) : List Dt × Int := if validV v = true ∧ validR d = true then (raiseR v d, 0) else ([], 2)
theorem mergeB_yes {a b : List Dt} (ha : validV a = true) (hb : validV b = true) : mergeB a b = ofB (a ++ b) := by
  unfold mergeB
  rw [if_pos ⟨ha, hb⟩, of_app ((valid_vd a).1 ha) ((valid_vd b).1 hb)]
theorem mergeB_one (v : List Dt) (d : Dt) : mergeB v [d] = raiseB v d := rfl

end Go.Proofs.Yteojbekkbgcmnab.E
end

/-
  The program's pass over a cloud, plainly; missing dots.
-/
section
namespace Go.Proofs.Yteojbekkbgcmnab.F
set_option linter.unusedVariables false
open D E

/-- One dot of the pass. -/
def stp (s : Ct) (d : Dt) : Ct := if hasV s.1 d = true then s else if d.2 = getV s.1 d.1 + 1 then (raiseR s.1 d, s.2) else (s.1, s.2 ++ [d])
theorem pass_fold : ∀ (cl v rest : List Dt), passR v rest cl = cl.foldl stp (v, rest)
  | [], v, rest => rfl
  | d :: t, v, rest => by
    rw [passR, List.foldl_cons, stp]
    split
    · exact pass_fold t v rest
    · split
      · exact pass_fold t (raiseR v d) rest
      · exact pass_fold t v (rest ++ [d])
/-- What the program keeps, too: the dots of the beginnings. -/
def stq (s : Ct × List Dt) (d : Dt) : Ct × List Dt := (stp s.1 d, if nearC s.1.1 d = true then s.2 ++ [d] else s.2)
def stK (v cl : List Dt) (k : Nat) : Ct × List Dt := (cl.take k).foldl stq ((v, []), v)
theorem stK_zero (v cl : List Dt) : stK v cl 0 = ((v, []), v) := rfl
theorem stK_succ {v cl : List Dt} {k : Nat} (h : k < cl.length) : stK v cl (k + 1) = stq (stK v cl k) cl[k] := by
  unfold stK
  rw [List.take_succ_eq_append_getElem h, List.foldl_append]
  rfl
theorem stq_fst : ∀ (l : List Dt) (s : Ct × List Dt), (l.foldl stq s).1 = l.foldl stp s.1
  | [], s => rfl
  | d :: t, s => by rw [List.foldl_cons, List.foldl_cons, stq_fst t]; rfl
theorem stK_end (v cl : List Dt) : (stK v cl cl.length).1 = compC (v, cl) := by
  unfold stK compC
  rw [List.take_length, stq_fst, pass_fold]
theorem of_snoc (l : List Dt) (d : Dt) : ofR (l ++ [d]) = raiseR (ofR l) d := by
  unfold ofR mergeR
  rw [List.foldl_append]
  rfl
/-- What holds between two dots. -/
structure Inv (v cl : List Dt) (k : Nat) : Prop where
  vd : Vd (stK v cl k).1.1
  bg : ofR (stK v cl k).2 = (stK v cl k).1.1
  bv : ∀ x ∈ (stK v cl k).2, validR x = true
  bl : (stK v cl k).2.length ≤ v.length + k
  rl : (stK v cl k).1.2.length ≤ k
theorem inv_zero {v cl : List Dt} (hv : Vd v) : Inv v cl 0 := by
  refine ⟨?_, ?_, ?_, ?_, ?_⟩
  · exact hv
  · rw [stK_zero]; exact merge_nil hv
  · exact hv.1
  · rw [stK_zero]; exact Nat.le_refl _
  · rw [stK_zero]; exact Nat.le_refl _
theorem near_yes {v : List Dt} {d : Dt} (hd : validR d = true) : nearC v d = true ↔ d.2 ≤ getV v d.1 + 1 := by
  have h := near_no (v := v) hd
  rcases hn : nearC v d with _ | _
  · have := h.1 hn
    constructor
    · intro e; cases e
    · intro e; omega
  · constructor
    · intro _
      rcases Int.lt_or_le (getV v d.1 + 1) d.2 with k | k
      · rw [h.2 k] at hn; cases hn
      · exact k
    · intro _; rfl
theorem near_dec {v : List Dt} {d : Dt} (hd : validR d = true) : nearC v d = decide (d.2 ≤ getV v d.1 + 1) := by
  rw [Bool.eq_iff_iff, near_yes hd, decide_eq_true_eq]
theorem stp_near {s : Ct} {d : Dt} (h : nearC s.1 d = true) : stp s d = (raiseR s.1 d, s.2) := by
  unfold stp
  by_cases h1 : hasV s.1 d = true
  · rw [if_pos h1, raiseR, if_pos h1]
  · rw [if_neg h1, if_pos]
    unfold nearC at h
    simpa [h1] using h
theorem stp_far {s : Ct} {d : Dt} (h : nearC s.1 d = false) : stp s d = (s.1, s.2 ++ [d]) := by
  unfold nearC at h
  simp only [Bool.or_eq_false_iff, decide_eq_false_iff_not] at h
  unfold stp
  rw [h.1, if_neg (by simp), if_neg h.2]
theorem inv_succ {v cl : List Dt} {k : Nat} (hi : Inv v cl k) (h : k < cl.length) (hd : validR cl[k] = true) : Inv v cl (k + 1) := by
  have h1 := hi.vd
  have h2 := hi.bg
  have h3 := hi.bv
  have h4 := hi.bl
  have h5 := hi.rl
  have e := stK_succ (v := v) h
  rcases hn : nearC (stK v cl k).1.1 cl[k] with _ | _
  · have e2 : stK v cl (k + 1) = (((stK v cl k).1.1, (stK v cl k).1.2 ++ [cl[k]]), (stK v cl k).2) := by
      rw [e, stq, stp_far hn, hn]
      rfl
    refine ⟨?_, ?_, ?_, ?_, ?_⟩ <;> rw [e2]
    · exact h1
    · exact h2
    · exact h3
    · show (stK v cl k).2.length ≤ _; omega
    · show ((stK v cl k).1.2 ++ [cl[k]]).length ≤ _; simp; omega
  · have e2 : stK v cl (k + 1) = ((raiseR (stK v cl k).1.1 cl[k], (stK v cl k).1.2), (stK v cl k).2 ++ [cl[k]]) := by
      rw [e, stq, stp_near hn, hn]
      rfl
    refine ⟨?_, ?_, ?_, ?_, ?_⟩ <;> rw [e2]
    · exact raise_vd h1 hd
    · show ofR ((stK v cl k).2 ++ [cl[k]]) = raiseR (stK v cl k).1.1 cl[k]
      rw [of_snoc, h2]
    · intro x hx
      rcases List.mem_append.1 hx with hx | hx
      · exact h3 x hx
      · rw [List.mem_singleton.1 hx]; exact hd
    · show ((stK v cl k).2 ++ [cl[k]]).length ≤ _; simp; omega
    · show (stK v cl k).1.2.length ≤ _; omega
/-- The counters behind a near dot. -/
theorem near_get {v cl : List Dt} {k : Nat} (hi : Inv v cl k) (h : k < cl.length) (hd : validR cl[k] = true) (hn : nearC (stK v cl k).1.1 cl[k] = true) (r : Int) :
    getV (stK v cl (k + 1)).1.1 r = if r = cl[k].1 then max (getV (stK v cl k).1.1 r) cl[k].2 else getV (stK v cl k).1.1 r := by
  rw [stK_succ h, stq, stp_near hn]
  exact raise_get hi.vd hd r
theorem stK_near {v cl : List Dt} {k : Nat} (h : k < cl.length) (hn : nearC (stK v cl k).1.1 cl[k] = true) : (stK v cl (k + 1)).1.2 = (stK v cl k).1.2 ∧ (stK v cl (k + 1)).2 = (stK v cl k).2 ++ [cl[k]] := by
  rw [stK_succ h, stq, stp_near hn, hn]
  exact ⟨rfl, rfl⟩
theorem stK_far {v cl : List Dt} {k : Nat} (h : k < cl.length) (hn : nearC (stK v cl k).1.1 cl[k] = false) : (stK v cl (k + 1)).1.2 = (stK v cl k).1.2 ++ [cl[k]] ∧ (stK v cl (k + 1)).2 = (stK v cl k).2 ∧ (stK v cl (k + 1)).1.1 = (stK v cl k).1.1 := by
  rw [stK_succ h, stq, stp_far hn, hn]
  exact ⟨rfl, rfl, rfl⟩
theorem inv_all {v cl : List Dt} (hv : Vd v) (hd : ∀ x ∈ cl, validR x = true) : ∀ k, k ≤ cl.length → Inv v cl k
  | 0, _ => inv_zero hv
  | k + 1, h => inv_succ (inv_all hv hd k (by omega)) (by omega) (hd _ (List.getElem_mem _))
/-- At the end: the vector of the beginnings. -/
theorem end_of {v cl : List Dt} (hv : Vd v) (hd : ∀ x ∈ cl, validR x = true) : ofB (stK v cl cl.length).2 = ((compC (v, cl)).1, 0) := by
  have hi := inv_all hv hd cl.length (Nat.le_refl _)
  unfold ofB
  rw [if_pos (by rw [List.all_eq_true]; exact hi.bv), hi.bg, stK_end]
theorem end_rest (v cl : List Dt) : (stK v cl cl.length).1.2 = (compC (v, cl)).2 := by rw [stK_end]

/-! ### What Compact, Union, Of, Add return -/
def compB (c : Ct) : Ct × Int := if validC c = true then (compC c, 0) else (([], []), 2)
def unionB (a b : Ct) : Ct × Int := if validC a = true ∧ validC b = true then (unionC a b, 0) else (([], []), 2)
def madeB (l : List Dt) : Ct × Int := compB ([], setR l)
def addB (c : Ct) (l : List Dt) : Ct × Int := unionB c ([], setR l)
theorem valid_none (l : List Dt) : validC ([], setR l) = l.all validR := by
  rw [Bool.eq_iff_iff, valid_vc, List.all_eq_true]
  constructor
  · rintro ⟨-, -, h⟩ x hx
    exact h x (mem_set.2 hx)
  · intro h
    exact ⟨vd_nil, srt_set l, fun x hx => h x (mem_set.1 hx)⟩
theorem union_nil_set {l m : List Dt} : unionR l (setR m) = unionR l m := union_eq (srt_union _ _) fun x => by rw [mem_union, mem_set]
theorem add_eq {c : Ct} {l : List Dt} (hc : Vc c) (hl : ∀ x ∈ l, validR x = true) : addB c l = (addC c l, 0) := by
  unfold addB unionB
  rw [if_pos ⟨(valid_vc c).2 hc, by rw [valid_none, List.all_eq_true]; exact hl⟩]
  unfold unionC addC
  rw [union_nil_set]
  rfl
theorem made_eq {l : List Dt} (hl : ∀ x ∈ l, validR x = true) : madeB l = (addC ([], []) l, 0) := by
  unfold madeB compB
  rw [if_pos (by rw [valid_none, List.all_eq_true]; exact hl)]
  unfold addC
  rw [show setR l = unionR [] l from union_eq (srt_set l) fun x => by rw [mem_set]; simp]
theorem add_no1 {c : Ct} {l : List Dt} (hc : validC c = false) : addB c l = (([], []), 2) := by
  unfold addB unionB
  rw [if_neg (by rw [hc]; simp)]
theorem add_no2 {c : Ct} {l : List Dt} (hl : l.all validR = false) : addB c l = (([], []), 2) := by
  unfold addB unionB
  rw [if_neg (by rw [valid_none, hl]; simp)]
theorem made_no {l : List Dt} (hl : l.all validR = false) : madeB l = (([], []), 2) := by
  unfold madeB compB
  rw [if_neg (by rw [valid_none, hl]; simp)]

/-! ### What is missing -/
def missR (c : Ct) (l : List Dt) : List Dt := (l.filter fun d => !hasC c d).foldl ins []
theorem mem_miss {c : Ct} {l : List Dt} {x : Dt} : x ∈ missR c l ↔ x ∈ l ∧ hasC c x = false := by
  unfold missR
  rw [mem_fold]
  simp
theorem srt_miss (c : Ct) (l : List Dt) : Srt (missR c l) := srt_fold _ srt_nil
theorem miss_eq {c : Ct} {l m : List Dt} (hm : Srt m) (h : ∀ x, x ∈ m ↔ x ∈ l ∧ hasC c x = false) : m = missR c l := srt_ext hm (srt_miss c l) fun x => by rw [mem_miss]; exact h x
theorem miss_filter (c : Ct) (l : List Dt) : (setR l).filter (fun d => !hasC c d) = missR c l := miss_eq ((srt_set l).filter _) fun x => by
  rw [List.mem_filter, mem_set]
  simp

/-! ### Within -/
def withB (a b : Ct) : Bool × Int := if validC a = true ∧ validC b = true then (withinC a b, 0) else (false, 2)
theorem ord_le {a b : List Dt} (ha : Vd a) (hb : Vd b) : ordR a b = (orderR a b, 0) ∧ decide (orderR a b ≤ 0) = withinV a b := by
  constructor
  · unfold ordR
    rw [if_pos ⟨(valid_vd a).2 ha, (valid_vd b).2 hb⟩]
  · unfold orderR
    rcases withinV a b with _ | _
    · rcases withinV b a with _ | _ <;> rfl
    · rcases withinV b a with _ | _ <;> rfl
theorem any_miss (l : List Dt) (c : Ct) : (l.any fun d => !hasC c d) = !(l.all fun d => hasC c d) := by
  rw [← List.not_all_eq_any_not]
theorem with_prog {a b : Ct} : withinC a b = (withinV a.1 (compC b).1 && !(a.2.any fun d => !hasC (compC b) d)) := by
  rw [any_miss, Bool.not_not, Bool.and_comm]
  rfl
theorem comp_prog {c : Ct} (h : validC c = true) : isCompR c = !(c.2.any fun d => decide (d.2 ≤ getV c.1 d.1 + 1)) := by
  have hv := (valid_vc c).1 h
  unfold isCompR
  rw [h, Bool.and_true]
  rw [Bool.eq_iff_iff, List.all_eq_true, Bool.not_eq_true', List.any_eq_false]
  constructor
  · intro k x hx
    rw [← near_dec (hv.2.2 x hx)]
    have := k x hx
    simpa using this
  · intro k x hx
    have := k x hx
    rw [← near_dec (hv.2.2 x hx)] at this
    simpa using this
theorem comp_inv {c : Ct} (h : validC c = false) : isCompR c = false := by
  unfold isCompR
  rw [h, Bool.and_false]
end Go.Proofs.Yteojbekkbgcmnab.F
end

/-
  Valid, equal, Has, as the program asks: closures over two boxes.
-/
section
/-
  The library's IndexFunc and ContainsFunc at dots, by what the function value says of the dots of the list.
-/
section
namespace Go.Proofs.Yteojbekkbgcmnab.F
set_option linter.unusedVariables false
open Go.RowKit V Go.Sort D

/-- What a function value says of the dots of a list, wherever it is asked behind w. -/
def Ask (w : World) (g : Nat) (cb : Array Value) (l : List Dt) (p : Dt → Bool) : Prop :=
  ∀ W, Below w.heap.size w W → ∀ d ∈ l, Calls Try.prog g (#[dv d] ++ cb) W fun e w' => e = .returned (.bool (p d)) ∧ Below W.heap.size W w'
theorem Ask.keep {w w' : World} {g : Nat} {cb : Array Value} {l : List Dt} {p : Dt → Bool} (h : Ask w g cb l p) (hb : Below w.heap.size w w') : Ask w' g cb l p :=
  fun W hW d hd => h W (hb.trans (hW.mono hb.size)) d hd
theorem any_here {l : List Dt} {k : Nat} {p : Dt → Bool} (hk : k < l.length) (h : p l[k] = true) : l.any p = true := by
  rw [List.any_eq_true]; exact ⟨l[k], List.getElem_mem hk, h⟩
theorem any_away {l : List Dt} {p : Dt → Bool} (h : ∀ j (hj : j < l.length), p l[j] = false) : l.any p = false := by
  rw [List.any_eq_false]
  intro x hx
  obtain ⟨j, hj, rfl⟩ := List.mem_iff_getElem.1 hx
  rw [h j hj]; simp

set_option maxRecDepth 100000 in
set_option maxHeartbeats 1000000 in
theorem indexF (l : List Dt) (a : Option Addr) (c g : Nat) (cb : Array Value) (p : Dt → Bool) (w : World) (eg : ∀ args w, (callFunc g args).run Try.prog w = .ok (.enter g args) w) (hp : Ask w g cb l p) (hx : RowD w a l) (hlx : l.length ≤ 1000000) :
    Calls Try.prog 68 #[.slice a l.length c, .func (.func g) #[] cb] w fun e w' => ∃ z : Int, e = .returned (.int .i64 z) ∧ decide (0 ≤ z) = l.any p ∧ Below w.heap.size w w' := by
  have HP := Lib.hid hp
  have HX := Lib.hid hx
  have hli : (l.length : Int) ≤ 1000000 := by omega
  clear hp hx hlx
  go_enter Try.func68, Try.ntmps68
  go_wp2_with fail
  go_loopw [5, 8] (fun _ i wr => ∃ k : Nat, k ≤ l.length ∧ i = .int .i64 (k : Int) ∧ Hid (Below w.heap.size w wr) ∧ Hid (∀ j (hj : j < l.length), j < k → p l[j] = false)) (fun _ i _ => l.length - (intOf i).toNat)
  case atStart => exact ⟨0, Nat.zero_le _, rfl, Below.refl _ _, fun j _ h => by omega⟩
  case round =>
    obtain ⟨k, hk, rfl, hh, HV⟩ := hrel
    by_cases hlt : k < l.length
    · obtain ⟨b1, o1, rfl, p0, p1⟩ := HX.out.get hh.out k hlt
      have HQ := Lib.hid (HP.out wr hh.out l[k] (List.getElem_mem hlt))
      have HT := Lib.hid (any_here (p := p) hlt)
      obtain ⟨q, hq⟩ : ∃ q, q = l[k] := ⟨_, rfl⟩
      rw [← hq] at p0 p1 HQ HT
      have HQe := Lib.hid hq
      have hi1 : (k : Int) < (l.length : Int) := by omega
      clear hq
      obtain ⟨q1, q2⟩ := q
      go_wp2_with fail
      refine HQ.out.mono ?_
      rintro e w3 ⟨rfl, hb⟩
      have HB := bel_tr hh hb
      clear hb HQ
      rcases hpq : p (q1, q2) with _ | _
      · go_wp2_with fail
        go_roundw
        case rel =>
          refine ⟨k + 1, by omega, by go_num, HB, fun j hj hjk => ?_⟩
          by_cases hjk2 : j = k
          · subst hjk2; rw [← HQe.out]; exact hpq
          · exact HV.out j hj (by omega)
        case measure => simp [intOf]; omega
      · have hT := HT.out hpq
        go_wp2_with fail
        go_ret
        exact ⟨k, rfl, by rw [hT]; simp, HB.out⟩
    · obtain rfl : k = l.length := by omega
      have HN : Hid (l.any p = false) := any_away fun j hj => HV.out j hj hj
      have hend : ¬ (l.length : Int) < (l.length : Int) := by omega
      go_wp2_with fail
      go_ret
      exact ⟨-1, rfl, by rw [HN.out]; simp, hh.out⟩

set_option maxRecDepth 100000 in
theorem containsF (l : List Dt) (a : Option Addr) (c g : Nat) (cb : Array Value) (p : Dt → Bool) (w : World) (eg : ∀ args w, (callFunc g args).run Try.prog w = .ok (.enter g args) w) (hp : Ask w g cb l p) (hx : RowD w a l) (hlx : l.length ≤ 1000000) :
    Calls Try.prog 51 #[.slice a l.length c, .func (.func g) #[] cb] w fun e w' => e = .returned (.bool (l.any p)) ∧ Below w.heap.size w w' := by
  have HI := Lib.hid (indexF l a c g cb p w eg hp hx hlx)
  clear hp hx hlx
  generalize l.any p = q at *
  go_enter Try.func51, Try.ntmps51
  go_wp2_with fail
  refine HI.out.mono ?_
  rintro e w2 ⟨z, rfl, hz, hb⟩
  have HB := Lib.hid hb
  clear hb HI
  cases q
  · have hz2 : ¬ (0 : Int) ≤ z := by simpa using hz
    go_wp2_with fail
    go_ret
    exact ⟨by simp, HB.out⟩
  · have hz2 : (0 : Int) ≤ z := by simpa using hz
    go_wp2_with fail
    go_ret
    exact ⟨by simp, HB.out⟩
end Go.Proofs.Yteojbekkbgcmnab.F
end

/-
  Which contexts are allowed: the program's and the reference's.
-/
section
namespace Go.Proofs.Yteojbekkbgcmnab.F
set_option linter.unusedVariables false
open Go.RowKit V Go.Sort D

/-- A context as a value. -/
abbrev cv (x y : Value) : Value := .agg #[x, y]
/-- A box of two slices. -/
def Bc (w : World) (g : Nat) (x y : Value) : Prop := w.cell? ⟨g, 0, none⟩ = some x ∧ w.cell? ⟨g, 1, none⟩ = some y
theorem Bc.keep {w w' : World} {g : Nat} {x y : Value} (h : Bc w g x y) (hb : Below w.heap.size w w') : Bc w' g x y :=
  ⟨(hb.cell (p := ⟨g, 0, none⟩) (lt_of_cell h.1)).trans h.1, (hb.cell (p := ⟨g, 1, none⟩) (lt_of_cell h.2)).trans h.2⟩
theorem any_valid (l : List Dt) : (l.any fun d => !validR d) = !(l.all validR) := by rw [← List.not_all_eq_any_not]

end Go.Proofs.Yteojbekkbgcmnab.F
end

/-
  The library's Equal at dots; Equal of contexts: the program's and the reference's.
-/
section
namespace Go.Proofs.Yteojbekkbgcmnab.F
set_option linter.unusedVariables false
open Go.RowKit V Go.Sort D

end Go.Proofs.Yteojbekkbgcmnab.F
end

/-
  Whether a dot is in a context: the program's and the reference's.
-/
section
namespace Go.Proofs.Yteojbekkbgcmnab.F
set_option linter.unusedVariables false
open Go.RowKit V Go.Sort D

/-- A box with a dot. -/
def Bd (g : Nat) (x y : Int) (w : World) : Prop := w.cell? ⟨g, 0, none⟩ = some (.int .i64 x) ∧ w.cell? ⟨g, 1, none⟩ = some (.int .i64 y)
theorem Bd.keep {w w' : World} {g : Nat} {x y : Int} (h : Bd g x y w) (hb : Below w.heap.size w w') : Bd g x y w' :=
  ⟨(hb.cell (p := ⟨g, 0, none⟩) (lt_of_cell h.1)).trans h.1, (hb.cell (p := ⟨g, 1, none⟩) (lt_of_cell h.2)).trans h.2⟩

end Go.Proofs.Yteojbekkbgcmnab.F
end

/-
  Whether all dots are valid; which contexts are: the reference's.
-/
section
namespace Go.Proofs.Yteojbekkbgcmnab.F
set_option linter.unusedVariables false
open Go.RowKit V Go.Sort D

theorem all_here {l : List Dt} {k : Nat} {p : Dt → Bool} (hk : k < l.length) (h : p l[k] = false) : l.all p = false := by
  rw [List.all_eq_false]; exact ⟨l[k], List.getElem_mem hk, by rw [h]; simp⟩
theorem all_away {l : List Dt} {p : Dt → Bool} (h : ∀ j (hj : j < l.length), p l[j] = true) : l.all p = true := by
  rw [List.all_eq_true]
  intro x hx
  obtain ⟨j, hj, rfl⟩ := List.mem_iff_getElem.1 hx
  exact h j hj
end Go.Proofs.Yteojbekkbgcmnab.F
end
end
