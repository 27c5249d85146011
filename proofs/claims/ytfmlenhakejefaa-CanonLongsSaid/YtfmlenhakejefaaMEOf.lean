/-
  The program's Of.
-/
import Derived.Test.YtfmlenhakejefaaECnt
import Derived.Test.YtfmlenhakejefaaEConcat
import Derived.Test.YtfmlenhakejefaaMDText
import Derived.Test.YtfmlenhakejefaaMDRefB
import Derived.Test.YtfmlenhakejefaaDHas

section
namespace Go.Proofs.Ytfmlenhakejefaa.E
set_option linter.unusedVariables false
open Go.RowKit V Go.Sort D

/-- 65 counters in memory, that may be written. -/
def Cm (w : World) (g : Nat) (f : Nat → Int) : Prop := ∀ i, i < 65 → w.cell? ⟨g, i, none⟩ = some (.int .i64 (f i)) ∧ w.frozen? ⟨g, i, none⟩ = false
theorem Cm.lt {w : World} {g : Nat} {f : Nat → Int} (h : Cm w g f) : g < w.heap.size := lt_of_cell (h 0 (by omega)).1
theorem Cm.keep {w w' : World} {g : Nat} {f : Nat → Int} (h : Cm w g f) (hb : Below w.heap.size w w') : Cm w' g f := fun i hi =>
  ⟨(hb.cell (p := ⟨g, i, none⟩) h.lt).trans (h i hi).1, (hb.frozen (p := ⟨g, i, none⟩) h.lt).trans (h i hi).2⟩
/-- One counter set. -/
def upd (f : Nat → Int) (k : Nat) (x : Int) : Nat → Int := fun i => if i = k then x else f i
theorem Cm.set {w : World} {g : Nat} {f : Nat → Int} (h : Cm w g f) {k : Nat} (hk : k < 65) (x : Int) : Cm (w.setCell ⟨g, k, none⟩ (.int .i64 x)) g (upd f k x) := fun i hi => by
  refine ⟨?_, ?_⟩
  · unfold upd
    by_cases e : i = k
    · subst e
      rw [if_pos rfl]
      exact World.cell?_setCell_same' _ _ _ (by rw [(h i hi).1]; rfl)
    · rw [if_neg e]
      rw [World.cell?_setCell_other _ _ _ _ (by simp)]
      exact (h i hi).1
  · rw [World.frozen?_setCell]
    exact (h i hi).2
def cellsOf (f : Nat → Int) : List Value := (List.range 65).map fun i => .int .i64 (f i)
theorem cn_of (f : Nat → Int) : Cn (cellsOf f) f := by
  unfold Cn cellsOf
  refine ⟨by simp, fun i hi => ?_⟩
  rw [List.getElem?_map, List.getElem?_range hi]
  rfl
theorem Cm.range {w : World} {g : Nat} {f : Nat → Int} (h : Cm w g f) : w.rangeAt g 0 (cellsOf f) := fun j v hj => by
  have hl : j < 65 := by
    have := (List.getElem?_eq_some_iff.1 hj).1
    rwa [(cn_of f).1] at this
  rw [(cn_of f).2 j hl] at hj
  cases hj
  rw [Nat.zero_add]
  exact (h j hl).1

/-- The greatest counter of each replica. -/
def lastF (l : List Dt) : Nat → Int := l.foldl (fun f d => upd f d.1.toNat (max (f d.1.toNat) d.2)) fun _ => 0

theorem last_take {l : List Dt} {k : Nat} (h : k < l.length) : lastF (l.take (k + 1)) = upd (lastF (l.take k)) l[k].1.toNat (max (lastF (l.take k) l[k].1.toNat) l[k].2) := by
  unfold lastF
  rw [List.take_succ_eq_append_getElem h, List.foldl_append]
  rfl
/-! ### The same as the reference -/
theorem vec_mem {f : Nat → Int} {k : Nat} {x : Dt} : x ∈ vecFrom f k ↔ ∃ i, k ≤ i ∧ i < 65 ∧ 0 < f i ∧ x = ((i : Int), f i) := by
  unfold vecFrom
  rw [List.mem_filterMap]
  constructor
  · rintro ⟨i, hi, h⟩
    rw [List.mem_range'_1] at hi
    split at h
    · rename_i hp
      cases h
      exact ⟨i, by omega, by omega, hp, rfl⟩
    · cases h
  · rintro ⟨i, h1, h2, h3, rfl⟩
    exact ⟨i, by rw [List.mem_range'_1]; omega, by rw [if_pos h3]⟩
theorem vec_inc (f : Nat → Int) : ∀ (m k : Nat), 65 - k = m → Inc (vecFrom f k)
  | 0, k, h => by rw [vec_end (by omega)]; exact List.Pairwise.nil
  | m + 1, k, h => by
    have ih := vec_inc f m (k + 1) (by omega)
    rw [vec_step (by omega)]
    unfold Inc at *
    split
    · rw [List.singleton_append, List.pairwise_cons]
      refine ⟨fun x hx => ?_, ih⟩
      obtain ⟨i, h1, -, -, rfl⟩ := vec_mem.1 hx
      show ((k : Nat) : Int) < (i : Int)
      omega
    · exact ih
theorem vec_get {f : Nat → Int} (hf : ∀ i, i < 65 → 0 ≤ f i) (r : Int) : getV (vecFrom f 0) r = if 0 ≤ r ∧ r < 65 then f r.toNat else 0 := by
  by_cases h : 0 ≤ r ∧ r < 65
  · rw [if_pos h]
    by_cases hp : 0 < f r.toNat
    · have hm : (r, f r.toNat) ∈ vecFrom f 0 := vec_mem.2 ⟨r.toNat, Nat.zero_le _, by omega, hp, by rw [Int.toNat_of_nonneg h.1]⟩
      exact get_some (vec_inc f _ 0 rfl) hm
    · rw [get_none]
      · have := hf r.toNat (by omega); omega
      · intro x hx e
        obtain ⟨i, -, h2, h3, rfl⟩ := vec_mem.1 hx
        subst e
        simp at hp
        omega
  · rw [if_neg h, get_none]
    intro x hx e
    obtain ⟨i, -, h2, h3, rfl⟩ := vec_mem.1 hx
    subst e
    exact h ⟨by omega, by show (i : Int) < 65; omega⟩
theorem last_both : ∀ (l : List Dt) (f : Nat → Int), (∀ x ∈ l, validR x = true) → (∀ i, 0 ≤ f i ∧ f i ≤ 4294967295) → f 0 = 0 →
    (∀ i, 0 ≤ (l.foldl (fun f d => upd f d.1.toNat (max (f d.1.toNat) d.2)) f) i ∧ (l.foldl (fun f d => upd f d.1.toNat (max (f d.1.toNat) d.2)) f) i ≤ 4294967295) ∧ (l.foldl (fun f d => upd f d.1.toNat (max (f d.1.toNat) d.2)) f) 0 = 0 ∧
    ∀ i : Nat, (l.foldl (fun f d => upd f d.1.toNat (max (f d.1.toNat) d.2)) f) i = l.foldl (fun n d => if (i : Int) = d.1 then max n d.2 else n) (f i)
  | [], f, _, hf, h0 => ⟨hf, h0, fun _ => rfl⟩
  | d :: t, f, hl, hf, h0 => by
    have hv := valid_iff.1 (hl d (by simp))
    obtain ⟨h1, h2, h3⟩ := last_both t (upd f d.1.toNat (max (f d.1.toNat) d.2)) (fun x hx => hl x (by simp [hx])) (fun i => by
      have := hf i
      have := hf d.1.toNat
      unfold upd
      split <;> omega) (by unfold upd; rw [if_neg (by omega)]; exact h0)
    refine ⟨h1, h2, fun i => ?_⟩
    rw [List.foldl_cons, List.foldl_cons, h3 i]
    congr 1
    unfold upd
    by_cases e : i = d.1.toNat
    · rw [if_pos e, if_pos (by omega), e]
    · rw [if_neg e, if_neg (by omega)]
theorem of_plain {l : List Dt} (h : ∀ j (hj : j < l.length), validR l[j] = true) : ofB l = (vecFrom (lastF l) 0, 0) := by
  have hl : ∀ x ∈ l, validR x = true := fun x hx => by
    obtain ⟨j, hj, rfl⟩ := List.mem_iff_getElem.1 hx
    exact h j hj
  obtain ⟨h1, h2, h3⟩ := last_both l (fun _ => 0) hl (fun _ => by omega) rfl
  have e : (l.foldl (fun f d => upd f d.1.toNat (max (f d.1.toNat) d.2)) fun _ => 0) = lastF l := rfl
  rw [e] at h1 h2 h3
  have hm := merge_both (b := l) vd_nil hl
  rw [all_yes h]
  congr 1
  refine vd_ext hm.1 ⟨fun x hx => ?_, vec_inc _ _ 0 rfl⟩ fun r => ?_
  · obtain ⟨i, -, h5, h6, rfl⟩ := vec_mem.1 hx
    rw [valid_iff]
    have := h1 i
    have hi : i ≠ 0 := by rintro rfl; omega
    refine ⟨?_, ?_, ?_, ?_⟩
    · show (0 : Int) < (i : Int); omega
    · show (i : Int) ≤ 64; omega
    · exact h6
    · exact this.2
  · rw [vec_get fun i _ => (h1 i).1]
    have hmr := hm.2 r
    by_cases hr : 0 ≤ r ∧ r < 65
    · rw [if_pos hr, h3, Int.toNat_of_nonneg hr.1]
      exact hmr
    · rw [if_neg hr]
      refine hmr.trans ?_
      have : ∀ (t : List Dt) (n : Int), (∀ x ∈ t, validR x = true) → t.foldl (fun n d => if r = d.1 then max n d.2 else n) n = n := by
        intro t
        induction t with
        | nil => intro n _; rfl
        | cons d t ih =>
          intro n ht
          have hv := valid_iff.1 (ht d (by simp))
          rw [List.foldl_cons, if_neg (by omega)]
          exact ih n fun x hx => ht x (by simp [hx])
      exact this l _ hl

/-- A box with a dot. -/
def Bd (g : Nat) (x y : Int) (w : World) : Prop := w.cell? ⟨g, 0, none⟩ = some (.int .i64 x) ∧ w.cell? ⟨g, 1, none⟩ = some (.int .i64 y)
end Go.Proofs.Ytfmlenhakejefaa.E
end

/-
  The program's Merge and Raise.
-/
section
namespace Go.Proofs.Ytfmlenhakejefaa.E
set_option linter.unusedVariables false
open Go.RowKit V Go.Sort D

theorem merge_nil {a : List Dt} (ha : Vd a) : mergeR [] a = a := (merge_eq vd_nil ha ha fun r => by have := get_ge ha r; show _ = max 0 _; omega).symm
theorem of_app {a b : List Dt} (ha : Vd a) (hb : Vd b) : ofB (a ++ b) = (mergeR a b, 0) := by
  unfold ofB
  rw [if_pos]
  · unfold ofR mergeR
    rw [List.foldl_append]
    congr 1
    have := merge_nil ha
    unfold mergeR at this
    rw [this]
  · rw [List.all_eq_true]
    intro x hx
    rcases List.mem_append.1 hx with h | h
    · exact ha.1 x h
    · exact hb.1 x h
def mergeB (a b : List Dt) : List Dt × Int := if validV a = true ∧ validV b = true then (mergeR a b, 0) else ([], 2)
def raiseB (v : List Dt) (d : Dt) : List Dt × Int := if validV v = true ∧ validR d = true then (raiseR v d, 0) else ([], 2)
theorem mergeB_yes {a b : List Dt} (ha : validV a = true) (hb : validV b = true) : mergeB a b = ofB (a ++ b) := by
  unfold mergeB
  rw [if_pos ⟨ha, hb⟩, of_app ((valid_vd a).1 ha) ((valid_vd b).1 hb)]
theorem mergeB_one (v : List Dt) (d : Dt) : mergeB v [d] = raiseB v d := rfl

end Go.Proofs.Ytfmlenhakejefaa.E
end

/-
  The program's pass over a cloud, plainly; missing dots.
-/
section
namespace Go.Proofs.Ytfmlenhakejefaa.F
set_option linter.unusedVariables false
open D E

/-- One dot of the pass. -/
def stp (s : Ct) (d : Dt) : Ct := if hasV s.1 d = true then s else if d.2 = getV s.1 d.1 + 1 then (raiseR s.1 d, s.2) else (s.1, s.2 ++ [d])
theorem pass_fold : ∀ (cl v rest : List Dt), passR v rest cl = cl.foldl stp (v, rest)
  | [], v, rest => rfl
  | d :: t, v, rest => by
    rw [passR, List.foldl_cons, stp]
    split
    · exact pass_fold t v rest
    · split
      · exact pass_fold t (raiseR v d) rest
      · exact pass_fold t v (rest ++ [d])
/-- What the program keeps, too: the dots of the beginnings. -/
def stq (s : Ct × List Dt) (d : Dt) : Ct × List Dt := (stp s.1 d, if nearC s.1.1 d = true then s.2 ++ [d] else s.2)
def stK (v cl : List Dt) (k : Nat) : Ct × List Dt := (cl.take k).foldl stq ((v, []), v)
theorem stK_zero (v cl : List Dt) : stK v cl 0 = ((v, []), v) := rfl
theorem stK_succ {v cl : List Dt} {k : Nat} (h : k < cl.length) : stK v cl (k + 1) = stq (stK v cl k) cl[k] := by
  unfold stK
  rw [List.take_succ_eq_append_getElem h, List.foldl_append]
  rfl
theorem stq_fst : ∀ (l : List Dt) (s : Ct × List Dt), (l.foldl stq s).1 = l.foldl stp s.1
  | [], s => rfl
  | d :: t, s => by rw [List.foldl_cons, List.foldl_cons, stq_fst t]; rfl
theorem stK_end (v cl : List Dt) : (stK v cl cl.length).1 = compC (v, cl) := by
  unfold stK compC
  rw [List.take_length, stq_fst, pass_fold]
theorem of_snoc (l : List Dt) (d : Dt) : ofR (l ++ [d]) = raiseR (ofR l) d := by
  unfold ofR mergeR
  rw [List.foldl_append]
  rfl
/-- What holds between two dots. -/
structure Inv (v cl : List Dt) (k : Nat) : Prop where
  vd : Vd (stK v cl k).1.1
  bg : ofR (stK v cl k).2 = (stK v cl k).1.1
  bv : ∀ x ∈ (stK v cl k).2, validR x = true
  bl : (stK v cl k).2.length ≤ v.length + k
  rl : (stK v cl k).1.2.length ≤ k
theorem inv_zero {v cl : List Dt} (hv : Vd v) : Inv v cl 0 := by
  refine ⟨?_, ?_, ?_, ?_, ?_⟩
  · exact hv
  · rw [stK_zero]; exact merge_nil hv
  · exact hv.1
  · rw [stK_zero]; exact Nat.le_refl _
  · rw [stK_zero]; exact Nat.le_refl _
theorem near_yes {v : List Dt} {d : Dt} (hd : validR d = true) : nearC v d = true ↔ d.2 ≤ getV v d.1 + 1 := by
  have h := near_no (v := v) hd
  rcases hn : nearC v d with _ | _
  · have := h.1 hn
    constructor
    · intro e; cases e
    · intro e; omega
  · constructor
    · intro _
      rcases Int.lt_or_le (getV v d.1 + 1) d.2 with k | k
      · rw [h.2 k] at hn; cases hn
      · exact k
    · intro _; rfl
theorem near_dec {v : List Dt} {d : Dt} (hd : validR d = true) : nearC v d = decide (d.2 ≤ getV v d.1 + 1) := by
  rw [Bool.eq_iff_iff, near_yes hd, decide_eq_true_eq]
theorem stp_near {s : Ct} {d : Dt} (h : nearC s.1 d = true) : stp s d = (raiseR s.1 d, s.2) := by
  unfold stp
  by_cases h1 : hasV s.1 d = true
  · rw [if_pos h1, raiseR, if_pos h1]
  · rw [if_neg h1, if_pos]
    unfold nearC at h
    simpa [h1] using h
theorem stp_far {s : Ct} {d : Dt} (h : nearC s.1 d = false) : stp s d = (s.1, s.2 ++ [d]) := by
  unfold nearC at h
  simp only [Bool.or_eq_false_iff, decide_eq_false_iff_not] at h
  unfold stp
  rw [h.1, if_neg (by simp), if_neg h.2]
theorem inv_succ {v cl : List Dt} {k : Nat} (hi : Inv v cl k) (h : k < cl.length) (hd : validR cl[k] = true) : Inv v cl (k + 1) := by
  have h1 := hi.vd
  have h2 := hi.bg
  have h3 := hi.bv
  have h4 := hi.bl
  have h5 := hi.rl
  have e := stK_succ (v := v) h
  rcases hn : nearC (stK v cl k).1.1 cl[k] with _ | _
  · have e2 : stK v cl (k + 1) = (((stK v cl k).1.1, (stK v cl k).1.2 ++ [cl[k]]), (stK v cl k).2) := by
      rw [e, stq, stp_far hn, hn]
      rfl
    refine ⟨?_, ?_, ?_, ?_, ?_⟩ <;> rw [e2]
    · exact h1
    · exact h2
    · exact h3
    · show (stK v cl k).2.length ≤ _; omega
    · show ((stK v cl k).1.2 ++ [cl[k]]).length ≤ _; simp; omega
  · have e2 : stK v cl (k + 1) = ((raiseR (stK v cl k).1.1 cl[k], (stK v cl k).1.2), (stK v cl k).2 ++ [cl[k]]) := by
      rw [e, stq, stp_near hn, hn]
      rfl
    refine ⟨?_, ?_, ?_, ?_, ?_⟩ <;> rw [e2]
    · exact raise_vd h1 hd
    · show ofR ((stK v cl k).2 ++ [cl[k]]) = raiseR (stK v cl k).1.1 cl[k]
      rw [of_snoc, h2]
    · intro x hx
      rcases List.mem_append.1 hx with hx | hx
      · exact h3 x hx
      · rw [List.mem_singleton.1 hx]; exact hd
    · show ((stK v cl k).2 ++ [cl[k]]).length ≤ _; simp; omega
    · show (stK v cl k).1.2.length ≤ _; omega
/-- The counters behind a near dot. -/
theorem near_get {v cl : List Dt} {k : Nat} (hi : Inv v cl k) (h : k < cl.length) (hd : validR cl[k] = true) (hn : nearC (stK v cl k).1.1 cl[k] = true) (r : Int) :
    getV (stK v cl (k + 1)).1.1 r = if r = cl[k].1 then max (getV (stK v cl k).1.1 r) cl[k].2 else getV (stK v cl k).1.1 r := by
  rw [stK_succ h, stq, stp_near hn]
  exact raise_get hi.vd hd r
theorem stK_near {v cl : List Dt} {k : Nat} (h : k < cl.length) (hn : nearC (stK v cl k).1.1 cl[k] = true) : (stK v cl (k + 1)).1.2 = (stK v cl k).1.2 ∧ (stK v cl (k + 1)).2 = (stK v cl k).2 ++ [cl[k]] := by
  rw [stK_succ h, stq, stp_near hn, hn]
  exact ⟨rfl, rfl⟩
theorem stK_far {v cl : List Dt} {k : Nat} (h : k < cl.length) (hn : nearC (stK v cl k).1.1 cl[k] = false) : (stK v cl (k + 1)).1.2 = (stK v cl k).1.2 ++ [cl[k]] ∧ (stK v cl (k + 1)).2 = (stK v cl k).2 ∧ (stK v cl (k + 1)).1.1 = (stK v cl k).1.1 := by
  rw [stK_succ h, stq, stp_far hn, hn]
  exact ⟨rfl, rfl, rfl⟩
theorem inv_all {v cl : List Dt} (hv : Vd v) (hd : ∀ x ∈ cl, validR x = true) : ∀ k, k ≤ cl.length → Inv v cl k
  | 0, _ => inv_zero hv
  | k + 1, h => inv_succ (inv_all hv hd k (by omega)) (by omega) (hd _ (List.getElem_mem _))
/-- At the end: the vector of the beginnings. -/
theorem end_of {v cl : List Dt} (hv : Vd v) (hd : ∀ x ∈ cl, validR x = true) : ofB (stK v cl cl.length).2 = ((compC (v, cl)).1, 0) := by
  have hi := inv_all hv hd cl.length (Nat.le_refl _)
  unfold ofB
  rw [if_pos (by rw [List.all_eq_true]; exact hi.bv), hi.bg, stK_end]
theorem end_rest (v cl : List Dt) : (stK v cl cl.length).1.2 = (compC (v, cl)).2 := by rw [stK_end]

/-! ### What Compact, Union, Of, Add return -/
def compB (c : Ct) : Ct × Int := if validC c = true then (compC c, 0) else (([], []), 2)
def unionB (a b : Ct) : Ct × Int := if validC a = true ∧ validC b = true then (unionC a b, 0) else (([], []), 2)
def madeB (l : List Dt) : Ct × Int := compB ([], setR l)
def addB (c : Ct) (l : List Dt) : Ct × Int := unionB c ([], setR l)
theorem valid_none (l : List Dt) : validC ([], setR l) = l.all validR := by
  rw [Bool.eq_iff_iff, valid_vc, List.all_eq_true]
  constructor
  · rintro ⟨-, -, h⟩ x hx
    exact h x (mem_set.2 hx)
  · intro h
    exact ⟨vd_nil, srt_set l, fun x hx => h x (mem_set.1 hx)⟩
theorem union_nil_set {l m : List Dt} : unionR l (setR m) = unionR l m := union_eq (srt_union _ _) fun x => by rw [mem_union, mem_set]
theorem add_eq {c : Ct} {l : List Dt} (hc : Vc c) (hl : ∀ x ∈ l, validR x = true) : addB c l = (addC c l, 0) := by
  unfold addB unionB
  rw [if_pos ⟨(valid_vc c).2 hc, by rw [valid_none, List.all_eq_true]; exact hl⟩]
  unfold unionC addC
  rw [union_nil_set]
  rfl
theorem made_eq {l : List Dt} (hl : ∀ x ∈ l, validR x = true) : madeB l = (addC ([], []) l, 0) := by
  unfold madeB compB
  rw [if_pos (by rw [valid_none, List.all_eq_true]; exact hl)]
  unfold addC
  rw [show setR l = unionR [] l from union_eq (srt_set l) fun x => by rw [mem_set]; simp]
theorem add_no1 {c : Ct} {l : List Dt} (hc : validC c = false) : addB c l = (([], []), 2) := by
  unfold addB unionB
  rw [if_neg (by rw [hc]; simp)]
theorem add_no2 {c : Ct} {l : List Dt} (hl : l.all validR = false) : addB c l = (([], []), 2) := by
  unfold addB unionB
  rw [if_neg (by rw [valid_none, hl]; simp)]
theorem made_no {l : List Dt} (hl : l.all validR = false) : madeB l = (([], []), 2) := by
  unfold madeB compB
  rw [if_neg (by rw [valid_none, hl]; simp)]

/-! ### What is missing -/
def missR (c : Ct) (l : List Dt) : List Dt := (l.filter fun d => !hasC c d).foldl ins []
theorem mem_miss {c : Ct} {l : List Dt} {x : Dt} : x ∈ missR c l ↔ x ∈ l ∧ hasC c x = false := by
  unfold missR
  rw [mem_fold]
  simp
theorem srt_miss (c : Ct) (l : List Dt) : Srt (missR c l) := srt_fold _ srt_nil
theorem miss_eq {c : Ct} {l m : List Dt} (hm : Srt m) (h : ∀ x, x ∈ m ↔ x ∈ l ∧ hasC c x = false) : m = missR c l := srt_ext hm (srt_miss c l) fun x => by rw [mem_miss]; exact h x
theorem miss_filter (c : Ct) (l : List Dt) : (setR l).filter (fun d => !hasC c d) = missR c l := miss_eq ((srt_set l).filter _) fun x => by
  rw [List.mem_filter, mem_set]
  simp

/-! ### Within -/
def withB (a b : Ct) : Bool × Int := if validC a = true ∧ validC b = true then (withinC a b, 0) else (false, 2)
theorem ord_le {a b : List Dt} (ha : Vd a) (hb : Vd b) : ordR a b = (orderR a b, 0) ∧ decide (orderR a b ≤ 0) = withinV a b := by
  constructor
  · unfold ordR
    rw [if_pos ⟨(valid_vd a).2 ha, (valid_vd b).2 hb⟩]
  · unfold orderR
    rcases withinV a b with _ | _
    · rcases withinV b a with _ | _ <;> rfl
    · rcases withinV b a with _ | _ <;> rfl
theorem any_miss (l : List Dt) (c : Ct) : (l.any fun d => !hasC c d) = !(l.all fun d => hasC c d) := by
  rw [← List.not_all_eq_any_not]
theorem with_prog {a b : Ct} : withinC a b = (withinV a.1 (compC b).1 && !(a.2.any fun d => !hasC (compC b) d)) := by
  rw [any_miss, Bool.not_not, Bool.and_comm]
  rfl
theorem comp_prog {c : Ct} (h : validC c = true) : isCompR c = !(c.2.any fun d => decide (d.2 ≤ getV c.1 d.1 + 1)) := by
  have hv := (valid_vc c).1 h
  unfold isCompR
  rw [h, Bool.and_true]
  rw [Bool.eq_iff_iff, List.all_eq_true, Bool.not_eq_true', List.any_eq_false]
  constructor
  · intro k x hx
    rw [← near_dec (hv.2.2 x hx)]
    have := k x hx
    simpa using this
  · intro k x hx
    have := k x hx
    rw [← near_dec (hv.2.2 x hx)] at this
    simpa using this
theorem comp_inv {c : Ct} (h : validC c = false) : isCompR c = false := by
  unfold isCompR
  rw [h, Bool.and_false]
end Go.Proofs.Ytfmlenhakejefaa.F
end

/-
  Valid, equal, Has, as the program asks: closures over two boxes.
-/
section
/-
  The library's IndexFunc and ContainsFunc at dots, by what the function value says of the dots of the list.
-/
section
namespace Go.Proofs.Ytfmlenhakejefaa.F
set_option linter.unusedVariables false
open Go.RowKit V Go.Sort D

/-- What a function value says of the dots of a list, wherever it is asked behind w. -/
def Ask (w : World) (g : Nat) (cb : Array Value) (l : List Dt) (p : Dt → Bool) : Prop :=
  ∀ W, Below w.heap.size w W → ∀ d ∈ l, Calls Try.prog g (#[dv d] ++ cb) W fun e w' => e = .returned (.bool (p d)) ∧ Below W.heap.size W w'
theorem Ask.keep {w w' : World} {g : Nat} {cb : Array Value} {l : List Dt} {p : Dt → Bool} (h : Ask w g cb l p) (hb : Below w.heap.size w w') : Ask w' g cb l p :=
  fun W hW d hd => h W (hb.trans (hW.mono hb.size)) d hd
theorem any_here {l : List Dt} {k : Nat} {p : Dt → Bool} (hk : k < l.length) (h : p l[k] = true) : l.any p = true := by
  rw [List.any_eq_true]; exact ⟨l[k], List.getElem_mem hk, h⟩
theorem any_away {l : List Dt} {p : Dt → Bool} (h : ∀ j (hj : j < l.length), p l[j] = false) : l.any p = false := by
  rw [List.any_eq_false]
  intro x hx
  obtain ⟨j, hj, rfl⟩ := List.mem_iff_getElem.1 hx
  rw [h j hj]; simp

set_option maxRecDepth 100000 in
set_option maxHeartbeats 1000000 in
theorem indexF (l : List Dt) (a : Option Addr) (c g : Nat) (cb : Array Value) (p : Dt → Bool) (w : World) (eg : ∀ args w, (callFunc g args).run Try.prog w = .ok (.enter g args) w) (hp : Ask w g cb l p) (hx : RowD w a l) (hlx : l.length ≤ 1000000) :
    Calls Try.prog 58 #[.slice a l.length c, .func (.func g) #[] cb] w fun e w' => ∃ z : Int, e = .returned (.int .i64 z) ∧ decide (0 ≤ z) = l.any p ∧ Below w.heap.size w w' := by
  have HP := Lib.hid hp
  have HX := Lib.hid hx
  have hli : (l.length : Int) ≤ 1000000 := by omega
  clear hp hx hlx
  go_enter Try.func58, Try.ntmps58
  go_wp2_with fail
  go_loopw [5, 8] (fun _ i wr => ∃ k : Nat, k ≤ l.length ∧ i = .int .i64 (k : Int) ∧ Hid (Below w.heap.size w wr) ∧ Hid (∀ j (hj : j < l.length), j < k → p l[j] = false)) (fun _ i _ => l.length - (intOf i).toNat)
  case atStart => exact ⟨0, Nat.zero_le _, rfl, Below.refl _ _, fun j _ h => by omega⟩
  case round =>
    obtain ⟨k, hk, rfl, hh, HV⟩ := hrel
    by_cases hlt : k < l.length
    · obtain ⟨b1, o1, rfl, p0, p1⟩ := HX.out.get hh.out k hlt
      have HQ := Lib.hid (HP.out wr hh.out l[k] (List.getElem_mem hlt))
      have HT := Lib.hid (any_here (p := p) hlt)
      obtain ⟨q, hq⟩ : ∃ q, q = l[k] := ⟨_, rfl⟩
      rw [← hq] at p0 p1 HQ HT
      have HQe := Lib.hid hq
      have hi1 : (k : Int) < (l.length : Int) := by omega
      clear hq
      obtain ⟨q1, q2⟩ := q
      go_wp2_with fail
      refine HQ.out.mono ?_
      rintro e w3 ⟨rfl, hb⟩
      have HB := bel_tr hh hb
      clear hb HQ
      rcases hpq : p (q1, q2) with _ | _
      · go_wp2_with fail
        go_roundw
        case rel =>
          refine ⟨k + 1, by omega, by go_num, HB, fun j hj hjk => ?_⟩
          by_cases hjk2 : j = k
          · subst hjk2; rw [← HQe.out]; exact hpq
          · exact HV.out j hj (by omega)
        case measure => simp [intOf]; omega
      · have hT := HT.out hpq
        go_wp2_with fail
        go_ret
        exact ⟨k, rfl, by rw [hT]; simp, HB.out⟩
    · obtain rfl : k = l.length := by omega
      have HN : Hid (l.any p = false) := any_away fun j hj => HV.out j hj hj
      have hend : ¬ (l.length : Int) < (l.length : Int) := by omega
      go_wp2_with fail
      go_ret
      exact ⟨-1, rfl, by rw [HN.out]; simp, hh.out⟩

set_option maxRecDepth 100000 in
theorem containsF (l : List Dt) (a : Option Addr) (c g : Nat) (cb : Array Value) (p : Dt → Bool) (w : World) (eg : ∀ args w, (callFunc g args).run Try.prog w = .ok (.enter g args) w) (hp : Ask w g cb l p) (hx : RowD w a l) (hlx : l.length ≤ 1000000) :
    Calls Try.prog 45 #[.slice a l.length c, .func (.func g) #[] cb] w fun e w' => e = .returned (.bool (l.any p)) ∧ Below w.heap.size w w' := by
  have HI := Lib.hid (indexF l a c g cb p w eg hp hx hlx)
  clear hp hx hlx
  generalize l.any p = q at *
  go_enter Try.func45, Try.ntmps45
  go_wp2_with fail
  refine HI.out.mono ?_
  rintro e w2 ⟨z, rfl, hz, hb⟩
  have HB := Lib.hid hb
  clear hb HI
  cases q
  · have hz2 : ¬ (0 : Int) ≤ z := by simpa using hz
    go_wp2_with fail
    go_ret
    exact ⟨by simp, HB.out⟩
  · have hz2 : (0 : Int) ≤ z := by simpa using hz
    go_wp2_with fail
    go_ret
    exact ⟨by simp, HB.out⟩
end Go.Proofs.Ytfmlenhakejefaa.F
end

/-
  Which contexts are allowed: the program's and the reference's.
-/
section
namespace Go.Proofs.Ytfmlenhakejefaa.F
set_option linter.unusedVariables false
open Go.RowKit V Go.Sort D

/-- A context as a value. -/
abbrev cv (x y : Value) : Value := .agg #[x, y]
abbrev cbox (x y : Value) : Obj := .cells #[x, y] 43
/-- A box of two slices. -/
def Bc (w : World) (g : Nat) (x y : Value) : Prop := w.cell? ⟨g, 0, none⟩ = some x ∧ w.cell? ⟨g, 1, none⟩ = some y
theorem Bc.keep {w w' : World} {g : Nat} {x y : Value} (h : Bc w g x y) (hb : Below w.heap.size w w') : Bc w' g x y :=
  ⟨(hb.cell (p := ⟨g, 0, none⟩) (lt_of_cell h.1)).trans h.1, (hb.cell (p := ⟨g, 1, none⟩) (lt_of_cell h.2)).trans h.2⟩
theorem two_new (w : World) (x y : Value) : Bc (w.alloc (cbox x y)) w.heap.size x y := by
  refine ⟨?_, ?_⟩ <;> go_simp

theorem enters_noDot : ∀ args w, (callFunc 57 args).run Try.prog w = .ok (.enter 57 args) w := enters_of Try.func57 (by kernel_rfl) rfl
set_option maxRecDepth 100000 in
theorem noDot_any (d : Dt) (w : World) : Calls Try.prog 57 #[dv d] w fun e w' => e = .returned (.bool (!validR d)) ∧ Below w.heap.size w w' := by
  have HV := Lib.hid (fun w => E.valid_lays d w)
  generalize validR d = R at *
  obtain ⟨d1, d2⟩ := d
  go_enter Try.func57, Try.ntmps57
  go_wp2_with fail
  refine (HV.out _).mono ?_
  rintro e w2 ⟨rfl, hl⟩
  have HB := bel_tr (Lib.hid (bel_box w _)) hl.bel
  clear hl HV
  go_wp2_with fail
  go_ret
  exact ⟨rfl, HB.out⟩
theorem ask_noDot (w : World) (l : List Dt) : Ask w 57 #[] l (fun d => !validR d) := fun W _ d _ => noDot_any d W
theorem any_valid (l : List Dt) : (l.any fun d => !validR d) = !(l.all validR) := by rw [← List.not_all_eq_any_not]

set_option maxRecDepth 100000 in
set_option maxHeartbeats 1000000 in
theorem valid_any (xs ys : List Dt) (a b : Option Addr) (n m : Nat) (w : World) (hx : RowD w a xs) (hy : RowD w b ys) (hlx : xs.length ≤ 1000000) (hly : ys.length ≤ 1000000) :
    Calls Try.prog 44 #[cv (.slice a xs.length n) (.slice b ys.length m)] w fun e w' => e = .returned (.bool (validC (xs, ys))) ∧ Below w.heap.size w w' := by
  have HV := Lib.hid (fun w h => E.validV_any xs a n w h (by omega))
  have HS := Lib.hid (fun w h => isSet_any ys b m w h (by omega))
  have HC := Lib.hid (fun w h => containsF ys b m 57 #[] (fun d => !validR d) w enters_noDot (ask_noDot w ys) h hly)
  rw [any_valid] at HC
  have HE : Hid (validC (xs, ys) = (E.validV xs && isSetR ys && ys.all validR)) := rfl
  have HB := Lib.hid (bel_box w (cbox (.slice a xs.length n) (.slice b ys.length m)))
  have HT := Lib.hid (two_new w (.slice a xs.length n) (.slice b ys.length m))
  have HX := Lib.hid (hx.keep HB.out)
  have HY := Lib.hid (hy.keep HB.out)
  clear hx hy hlx hly
  generalize validC (xs, ys) = R at *
  generalize E.validV xs = v1 at *
  generalize isSetR ys = v2 at *
  generalize ys.all validR = v3 at *
  go_enter Try.func44, Try.ntmps44
  go_wp2_with fail
  generalize w.alloc (cbox (.slice a xs.length n) (.slice b ys.length m)) = w1 at *
  have k0 := HT.out.1
  have k1 := HT.out.2
  go_wp2_with fail
  refine (HV.out _ HX.out).mono ?_
  rintro e w2 ⟨rfl, hl⟩
  have hb := hl.bel
  replace HT := Lib.hid (HT.out.keep hb)
  replace HY := Lib.hid (HY.out.keep hb)
  replace HB := bel_tr HB hb
  clear hl hb HV k0 k1
  have k1 := HT.out.2
  rcases v1 with _ | _
  · have hE := HE.out
    subst hE
    clear HE
    go_wp2_with fail
    go_ret
    exact ⟨rfl, HB.out⟩
  · go_wp2_with fail
    refine (HS.out _ HY.out).mono ?_
    rintro e w3 ⟨rfl, hb⟩
    replace HT := Lib.hid (HT.out.keep hb)
    replace HY := Lib.hid (HY.out.keep hb)
    replace HB := bel_tr HB hb
    clear hb HS k1
    have k1 := HT.out.2
    rcases v2 with _ | _
    · have hE := HE.out
      subst hE
      clear HE
      go_wp2_with fail
      go_ret
      exact ⟨rfl, HB.out⟩
    · go_wp2_with fail
      refine (HC.out _ HY.out).mono ?_
      rintro e w4 ⟨rfl, hb⟩
      replace HB := bel_tr HB hb
      clear hb HC k1
      have hE := HE.out
      subst hE
      clear HE
      go_wp2_with fail
      go_ret
      exact ⟨by simp, HB.out⟩
end Go.Proofs.Ytfmlenhakejefaa.F
end

/-
  The library's Equal at dots; Equal of contexts: the program's and the reference's.
-/
section
namespace Go.Proofs.Ytfmlenhakejefaa.F
set_option linter.unusedVariables false
open Go.RowKit V Go.Sort D

end Go.Proofs.Ytfmlenhakejefaa.F
end

/-
  Whether a dot is in a context: the program's and the reference's.
-/
section
namespace Go.Proofs.Ytfmlenhakejefaa.F
set_option linter.unusedVariables false
open Go.RowKit V Go.Sort D

/-- A box with a dot. -/
def Bd (g : Nat) (x y : Int) (w : World) : Prop := w.cell? ⟨g, 0, none⟩ = some (.int .i64 x) ∧ w.cell? ⟨g, 1, none⟩ = some (.int .i64 y)
theorem Bd.keep {w w' : World} {g : Nat} {x y : Int} (h : Bd g x y w) (hb : Below w.heap.size w w') : Bd g x y w' :=
  ⟨(hb.cell (p := ⟨g, 0, none⟩) (lt_of_cell h.1)).trans h.1, (hb.cell (p := ⟨g, 1, none⟩) (lt_of_cell h.2)).trans h.2⟩

end Go.Proofs.Ytfmlenhakejefaa.F
end

/-
  Whether all dots are valid; which contexts are: the reference's.
-/
section
namespace Go.Proofs.Ytfmlenhakejefaa.F
set_option linter.unusedVariables false
open Go.RowKit V Go.Sort D

theorem all_here {l : List Dt} {k : Nat} {p : Dt → Bool} (hk : k < l.length) (h : p l[k] = false) : l.all p = false := by
  rw [List.all_eq_false]; exact ⟨l[k], List.getElem_mem hk, by rw [h]; simp⟩
theorem all_away {l : List Dt} {p : Dt → Bool} (h : ∀ j (hj : j < l.length), p l[j] = true) : l.all p = true := by
  rw [List.all_eq_true]
  intro x hx
  obtain ⟨j, hj, rfl⟩ := List.mem_iff_getElem.1 hx
  exact h j hj
end Go.Proofs.Ytfmlenhakejefaa.F
end
end

/-
  Counters, near, Compact, as the program does them.
-/
section
/-
  The program's counters of a vector, and the question whether a dot is near.
-/
section
namespace Go.Proofs.Ytfmlenhakejefaa.F
set_option linter.unusedVariables false
open Go.RowKit V Go.Sort D
open E (Cm upd Vd getV vd_cons get_none hasV)

theorem zero_cm6 (w : World) : Cm (w.alloc (Obj.cells Try.zeroCells93 93)) w.heap.size (fun _ => 0) := by
  have e : Try.zeroCells93 = Array.replicate 65 (.int .i64 0) := by kernel_rfl
  rw [e]
  intro i hi
  have hh : (w.alloc (.cells (Array.replicate 65 (.int .i64 0)) 93)).heap[w.heap.size]? = some (.cells (Array.replicate 65 (.int .i64 0)) 93 (0, 0)) := by show (w.heap.push _)[w.heap.size]? = _; simp
  constructor
  · simp only [World.cell?, hh]
    rw [if_neg (by simp)]
    simp [hi]
  · unfold World.frozen?
    rw [show (⟨w.heap.size, i, none⟩ : Addr).block = w.heap.size from rfl, hh]
    simp
theorem ix_cn6 (g n : Nat) (z : Int) (hz : z = (n : Int)) (hn : n < 65) : ∀ w, (Instr.indexAt 93 (.pointer (some ⟨g, 0, none⟩)) (.int .i64 z)).run Try.prog w = .ok (.pointer (some ⟨g, n, none⟩)) w := by
  intro w
  subst hz
  have hk2 : (n : Int) < 65 := by omega
  go_simp
/-- The counters of the dots of a list, the last one of each replica. -/
def cntF (l : List Dt) : Nat → Int := l.foldl (fun f d => upd f d.1.toNat d.2) fun _ => 0
theorem cnt_take {l : List Dt} {k : Nat} (h : k < l.length) : cntF (l.take (k + 1)) = upd (cntF (l.take k)) l[k].1.toNat l[k].2 := by
  unfold cntF
  rw [List.take_succ_eq_append_getElem h, List.foldl_append]
  rfl
theorem cnt_fold : ∀ (l : List Dt) (f : Nat → Int), Vd l → ∀ i : Nat, (l.foldl (fun f d => upd f d.1.toNat d.2) f) i = if getV l i = 0 then f i else getV l i
  | [], f, _, i => by simp [getV]
  | d :: t, f, hv, i => by
    have h := vd_cons.1 hv
    have hd := valid_iff.1 h.1
    rw [List.foldl_cons, cnt_fold t _ h.2.2 i, getV]
    by_cases e : d.1 = (i : Int)
    · have e2 : i = d.1.toNat := by omega
      have hn : getV t i = 0 := get_none fun x hx => by have := h.2.1 x hx; omega
      rw [if_pos hn, if_pos e, if_neg (by omega)]
      unfold upd
      rw [if_pos e2]
    · rw [if_neg e]
      have h5 : upd f d.1.toNat d.2 i = f i := if_neg (fun e2 => e (by omega))
      rw [h5]
theorem cnt_get {l : List Dt} (hv : Vd l) (i : Nat) : cntF l i = getV l i := by
  unfold cntF
  rw [cnt_fold l _ hv i]
  split
  · rename_i h; exact h.symm
  · rfl

set_option maxRecDepth 100000 in
set_option maxHeartbeats 1000000 in
theorem countersOf_any (xs : List Dt) (a : Option Addr) (n : Nat) (w : World) (hv : Vd xs) (hx : RowD w a xs) (hlx : xs.length ≤ 1000000) :
    Calls Try.prog 47 #[.slice a xs.length n] w fun e w' => ∃ g, e = .returned (.pointer (some ⟨g, 0, none⟩)) ∧ ∃ f, Cm w' g f ∧ (∀ i : Nat, f i = getV xs i) ∧ w.heap.size ≤ g ∧ Below w.heap.size w w' := by
  have HX := Lib.hid hx
  have hli : (xs.length : Int) ≤ 1000000 := by omega
  have HVd := Lib.hid (fun k (hk : k < xs.length) => valid_iff.1 (hv.1 xs[k] (List.getElem_mem hk)))
  have HG : Hid (∀ i : Nat, cntF xs i = getV xs i) := fun i => cnt_get hv i
  clear hv hx hlx
  go_enter Try.func47, Try.ntmps47
  go_wp2_with fail
  have hC := zero_cm6 w
  have hB : Below w.heap.size w (w.alloc (Obj.cells Try.zeroCells93 93)) := (Below.refl _ _).alloc (Nat.le_refl _) _
  generalize w.alloc (Obj.cells Try.zeroCells93 93) = w1 at *
  have HC := Lib.hid hC
  have HB := Lib.hid hB
  clear hC hB
  go_loopw [5, 8] (fun _ i wr => ∃ (k : Nat), k ≤ xs.length ∧ i = .int .i64 (k : Int) ∧ Hid (Below w.heap.size w wr) ∧ Hid (Cm wr w.heap.size (cntF (xs.take k)))) (fun _ i _ => xs.length - (intOf i).toNat)
  case atStart => exact ⟨0, Nat.zero_le _, rfl, HB, HC⟩
  case round =>
    obtain ⟨k, hk, rfl, hh, HO⟩ := hrel
    by_cases hlt : k < xs.length
    · have hi1 : (k : Int) < (xs.length : Int) := by omega
      obtain ⟨b1, o1, rfl, p0, p1⟩ := HX.out.get hh.out k hlt
      have HF : Hid (cntF (xs.take (k + 1)) = upd (cntF (xs.take k)) xs[k].1.toNat xs[k].2) := cnt_take hlt
      have hvi := HVd.out k hlt
      obtain ⟨p, hp⟩ : ∃ p, p = xs[k] := ⟨_, rfl⟩
      rw [← hp] at p0 p1 HF hvi
      clear hp
      generalize cntF (xs.take k) = f at *
      obtain ⟨z, y⟩ := p
      obtain ⟨q, rfl⟩ : ∃ q : Nat, z = (q : Int) := ⟨z.toNat, by simp only at hvi; omega⟩
      have hn : q < 65 := by simp only at hvi; omega
      simp only [Int.toNat_natCast] at HF
      clear hvi
      have hix := ix_cn6 w.heap.size q (q : Int) rfl hn
      have hBa : Below wr.heap.size wr (wr.alloc (Obj.cells #[.int .i64 (q : Int), .int .i64 y] 36)) := (Below.refl _ _).alloc (Nat.le_refl _) _
      have HO1 := Lib.hid (HO.out.keep hBa)
      have HB1 := bel_tr hh hBa
      have q0 := (HO1.out q hn).1
      have q1 := (HO1.out q hn).2
      clear hBa
      go_wp2_with fail
      go_roundw
      case rel => exact ⟨k + 1, by omega, by go_num, (HB1.out.setCell (p := ⟨w.heap.size, q, none⟩) (Nat.le_refl _) _), by show Cm _ _ _; rw [HF.out]; exact HO1.out.set hn _⟩
      case measure => simp [intOf]; omega
    · obtain rfl : k = xs.length := by omega
      have hi1 : ¬ (xs.length : Int) < (xs.length : Int) := by omega
      rw [List.take_length] at HO
      go_wp2_with fail
      go_ret
      exact ⟨_, rfl, cntF xs, HO.out, HG.out, Nat.le_refl _, hh.out⟩

set_option maxRecDepth 100000 in
set_option maxHeartbeats 1000000 in
theorem near_any (d : Dt) (f : Nat → Int) (u : Int) (g B : Nat) (w : World) (hu : f d.1.toNat = u) (hd : 0 ≤ d.1 ∧ d.1 ≤ 64) (hf : 0 ≤ u ∧ u ≤ 4294967295) (hC : Cm w g f) (hb : w.cell? ⟨B, 0, none⟩ = some (.pointer (some ⟨g, 0, none⟩))) :
    Calls Try.prog 59 #[dv d, .pointer (some ⟨B, 0, none⟩)] w fun e w' => e = .returned (.bool (decide (d.2 ≤ u + 1))) ∧ Below w.heap.size w w' := by
  obtain ⟨z, y⟩ := d
  obtain ⟨q, rfl⟩ : ∃ q : Nat, z = (q : Int) := ⟨z.toNat, by simp only at hd; omega⟩
  have hn : q < 65 := by simp only at hd; omega
  have hix := ix_cn6 g q (q : Int) rfl hn
  have hB := bel_box w (.cells #[.int .i64 (q : Int), .int .i64 y] 36)
  have c0 := (hC.keep hB q hn).1
  have c1 := (hB.cell (p := ⟨B, 0, none⟩) (lt_of_cell hb)).trans hb
  simp only [Int.toNat_natCast] at hu
  rw [hu] at c0
  have hw : IntKind.i64.wrap (u + 1) = u + 1 := by
    have h1 := hf.1
    have h2 := hf.2
    simp [IntKind.wrap, IntKind.signed, IntKind.bits]
    omega
  have k0 : (w.alloc (.cells #[.int .i64 (q : Int), .int .i64 y] 36)).cell? ⟨w.heap.size, 0, none⟩ = some (.int .i64 (q : Int)) := by go_simp
  have k1 : (w.alloc (.cells #[.int .i64 (q : Int), .int .i64 y] 36)).cell? ⟨w.heap.size, 1, none⟩ = some (.int .i64 y) := by go_simp
  have HB := Lib.hid hB
  have HF := Lib.hid hf
  clear hd hC hb hB hf hu
  go_enter Try.func59, Try.ntmps59
  go_wp2_with fail
  generalize w.alloc (.cells #[.int .i64 (q : Int), .int .i64 y] 36) = w1 at *
  go_quiet (fail)
  go_wp2_with fail
  go_ret
  exact ⟨rfl, bel_drewN HB.out _⟩

theorem enters_near : ∀ args w, (callFunc 59 args).run Try.prog w = .ok (.enter 59 args) w := enters_of Try.func59 (by kernel_rfl) rfl
set_option maxRecDepth 100000 in
theorem nearTo_any (g : Nat) (w : World) : Calls Try.prog 46 #[.pointer (some ⟨g, 0, none⟩)] w fun e w' => e = .returned (.func (.func 59) #[] #[.pointer (some ⟨w.heap.size, 0, none⟩)]) ∧ w'.cell? ⟨w.heap.size, 0, none⟩ = some (.pointer (some ⟨g, 0, none⟩)) ∧ Below w.heap.size w w' := by
  go_enter Try.func46, Try.ntmps46
  go_wp2_with fail
  go_ret
  refine ⟨rfl, ?_, bel_box _ _⟩
  go_simp
theorem OD.kb {w w' : World} {base : Nat} {E : TypeId} {v : Value} {l : List Dt} {row : Option Nat} (h : OD w base E v l) (hg : w.grownBy w' row) (hne : ∀ k, v.ownBlock = some k → row ≠ some k) : OD w' base E v l := by
  refine h.keep hg ?_
  rcases hv : v.ownBlock with _ | k
  · exact .inl rfl
  · exact .inr fun e => hne k hv e.symm

theorem nilV : ∀ (w : World) (a : Option Addr) (n c n' c' : Nat), (binOp .eql 41 (.slice a n c) (.slice none n' c')).run Try.prog w = .ok (.bool a.isNone) w := fun w a n c n' c' => Lib.run_eql_slice_nil w _ _ a n c n' c' Try.underlying41
end Go.Proofs.Ytfmlenhakejefaa.F
end

/-
  The program's pass over a cloud.
-/
section
namespace Go.Proofs.Ytfmlenhakejefaa.F
set_option linter.unusedVariables false
open Go.RowKit V Go.Sort D
open E (Cm upd Vd getV vd_cons get_none hasV get_ge)

/-- Two cells that may be written. -/
def Wc (w : World) (g : Nat) : Prop := ∀ i, i < 2 → (∃ v, w.cell? ⟨g, i, none⟩ = some v) ∧ w.frozen? ⟨g, i, none⟩ = false
/-- What stands below the rows of the pass: the box, the room for the result, the counters, the question. -/
structure Kc (h g b base : Nat) (x y : Value) (f : Nat → Int) (w : World) : Prop where
  o1 : h + 1 < g
  o2 : g < b
  o3 : b < base
  o4 : base ≤ w.heap.size
  bx : Bc w h x y
  rs : Wc w (h + 1)
  cm : Cm w g f
  nr : w.cell? ⟨b, 0, none⟩ = some (.pointer (some ⟨g, 0, none⟩))
section
variable {h g b base : Nat} {x y : Value} {f : Nat → Int} {w w' : World}
theorem Kc.keep (k : Kc h g b base x y f w) (hb : Below base w w') : Kc h g b base x y f w' := by
  have h1 := k.o1
  have h2 := k.o2
  have h3 := k.o3
  exact {
    o1 := h1
    o2 := h2
    o3 := h3
    o4 := Nat.le_trans k.o4 hb.size
    bx := ⟨(hb.cell (p := ⟨h, 0, none⟩) (by show h < base; omega)).trans k.bx.1, (hb.cell (p := ⟨h, 1, none⟩) (by show h < base; omega)).trans k.bx.2⟩
    rs := fun i hi => by
      obtain ⟨⟨v, hv⟩, hf⟩ := k.rs i hi
      exact ⟨⟨v, (hb.cell (p := ⟨h + 1, i, none⟩) (by show h + 1 < base; omega)).trans hv⟩, (hb.frozen (p := ⟨h + 1, i, none⟩) (by show h + 1 < base; omega)).trans hf⟩
    cm := fun i hi => ⟨(hb.cell (p := ⟨g, i, none⟩) (by show g < base; omega)).trans (k.cm i hi).1, (hb.frozen (p := ⟨g, i, none⟩) (by show g < base; omega)).trans (k.cm i hi).2⟩
    nr := (hb.cell (p := ⟨b, 0, none⟩) (by show b < base; omega)).trans k.nr }
theorem Kc.set (k : Kc h g b base x y f w) {n : Nat} (hn : n < 65) (z : Int) : Kc h g b base x y (upd f n z) (w.setCell ⟨g, n, none⟩ (.int .i64 z)) := by
  have h1 := k.o1
  have h2 := k.o2
  have h3 := k.o3
  exact {
    o1 := h1
    o2 := h2
    o3 := h3
    o4 := by have := k.o4; simpa [World.setCell] using this
    bx := ⟨(World.cell?_setCell_other _ _ _ _ (by first | (simp; done) | (simp; omega))).trans k.bx.1, (World.cell?_setCell_other _ _ _ _ (by first | (simp; done) | (simp; omega))).trans k.bx.2⟩
    rs := fun i hi => by
      obtain ⟨⟨v, hv⟩, hf⟩ := k.rs i hi
      exact ⟨⟨v, (World.cell?_setCell_other _ _ _ _ (by first | (simp; done) | (simp; omega))).trans hv⟩, by rw [World.frozen?_setCell]; exact hf⟩
    cm := k.cm.set hn z
    nr := (World.cell?_setCell_other _ _ _ _ (by first | (simp; done) | (simp; omega))).trans k.nr }
end

theorem get_le {v : List Dt} (hv : Vd v) (r : Int) : getV v r ≤ 4294967295 := by
  rcases Int.lt_or_le 0 (getV v r) with h | h
  · exact (valid_iff.1 (hv.1 _ (E.get_pos hv h))).2.2.2
  · omega
/-- Two rows that are not the same one. -/
def Apt (u v : Value) : Prop := ∀ g, u.ownBlock = some g → v.ownBlock ≠ some g
theorem Apt.symm {u v : Value} (h : Apt u v) : Apt v u := fun g hv hu => h g hu hv
theorem Apt.none (u : Value) : Apt u (.slice none 0 0) := fun g _ h => by cases h
theorem Apt.grew {w : World} {u v v' : Value} (h : Apt u v) (hg : G.Grew w v v') (hu : ∀ g, u.ownBlock = some g → g < w.heap.size) : Apt u v' := fun g hg1 hg2 => by
  rcases hg with e | e
  · exact h g hg1 (by rw [← e]; exact hg2)
  · rw [e] at hg2
    cases hg2
    have := hu _ hg1
    omega

theorem put_two {w : World} {h : Nat} {x y : Value} (k : Wc w h) : Bc ((w.setCell ⟨h, 0, none⟩ x).setCell ⟨h, 1, none⟩ y) h x y := by
  obtain ⟨⟨u, r0⟩, r1⟩ := k 0 (by omega)
  obtain ⟨⟨v, r2⟩, r3⟩ := k 1 (by omega)
  constructor
  · rw [World.cell?_setCell_other _ _ _ _ (by simp)]
    exact World.cell?_setCell_same' _ _ _ (by rw [r0]; rfl)
  · exact World.cell?_setCell_same' _ _ _ (by rw [World.cell?_setCell_other _ _ _ _ (by simp), r2]; rfl)
theorem OD.set {w : World} {base : Nat} {v : Value} {l : List Dt} (h : OD w base E v l) (g i : Nat) (z : Value) (hg : g < base) : OD (w.setCell ⟨g, i, none⟩ z) base E v l :=
  OD.kb h (gb_setCell w g i z) fun k hk e => by cases e; have := (h.lt _ hk).1; omega

end Go.Proofs.Ytfmlenhakejefaa.F
end
end
