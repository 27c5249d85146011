/-
  Version vectors, plainly.
-/
import Derived.Test.YtefnoajkdhgonaaDText
namespace Go.Proofs.Ytefnoajkdhgonaa.E
set_option linter.unusedVariables false
open D

/-- In order of the replicas, each once. -/
def Inc (v : List Dt) : Prop := v.Pairwise fun a b => a.1 < b.1
def Vd (v : List Dt) : Prop := (∀ x ∈ v, validR x = true) ∧ Inc v
theorem vd_nil : Vd [] := ⟨fun x h => by simp at h, List.Pairwise.nil⟩
theorem vd_cons {a : Dt} {t : List Dt} : Vd (a :: t) ↔ validR a = true ∧ (∀ b ∈ t, a.1 < b.1) ∧ Vd t := by
  unfold Vd Inc
  rw [List.pairwise_cons]
  constructor
  · rintro ⟨h1, h2, h3⟩
    exact ⟨h1 a (by simp), h2, fun x hx => h1 x (by simp [hx]), h3⟩
  · rintro ⟨h1, h2, h3, h4⟩
    refine ⟨fun x hx => ?_, h2, h4⟩
    rcases List.mem_cons.1 hx with rfl | hx
    · exact h1
    · exact h3 x hx
/-- The reference's loop: each dot is valid, and its replica is greater than the one before. -/
def validV : List Dt → Bool
  | [] => true
  | [a] => validR a
  | a :: b :: t => validR a && decide (a.1 < b.1) && validV (b :: t)
theorem valid_vd : ∀ (v : List Dt), validV v = true ↔ Vd v
  | [] => ⟨fun _ => vd_nil, fun _ => rfl⟩
  | [a] => by
    rw [vd_cons]
    simp [validV, vd_nil]
  | a :: b :: t => by
    rw [vd_cons]
    simp only [validV, Bool.and_eq_true, decide_eq_true_eq]
    rw [valid_vd (b :: t)]
    constructor
    · rintro ⟨⟨h1, h2⟩, h3⟩
      refine ⟨h1, fun x hx => ?_, h3⟩
      rcases List.mem_cons.1 hx with rfl | hx
      · exact h2
      · have := (vd_cons.1 h3).2.1 x hx
        omega
    · rintro ⟨h1, h2, h3⟩
      exact ⟨⟨h1, h2 b (by simp)⟩, h3⟩
/-- The counter of a replica. -/
def getV : List Dt → Int → Int
  | [], _ => 0
  | a :: t, r => if a.1 = r then a.2 else getV t r
def hasV (v : List Dt) (d : Dt) : Bool := validR d && decide (d.2 ≤ getV v d.1)
theorem get_none : ∀ {v : List Dt} {r : Int}, (∀ x ∈ v, x.1 ≠ r) → getV v r = 0
  | [], _, _ => rfl
  | a :: t, r, h => by
    rw [getV, if_neg (h a (by simp)), get_none fun x hx => h x (by simp [hx])]
theorem get_some : ∀ {v : List Dt} {x : Dt}, Inc v → x ∈ v → getV v x.1 = x.2
  | a :: t, x, hv, hx => by
    unfold Inc at hv
    rw [List.pairwise_cons] at hv
    rcases List.mem_cons.1 hx with rfl | hx
    · rw [getV, if_pos rfl]
    · have := hv.1 x hx
      rw [getV, if_neg (by omega), get_some hv.2 hx]
theorem get_cases (v : List Dt) (r : Int) : (∀ x ∈ v, x.1 ≠ r) ∨ ∃ x ∈ v, x.1 = r := by
  by_cases h : ∃ x ∈ v, x.1 = r
  · exact .inr h
  · exact .inl fun x hx e => h ⟨x, hx, e⟩
theorem get_ge {v : List Dt} (hv : Vd v) (r : Int) : 0 ≤ getV v r := by
  rcases get_cases v r with h | ⟨x, hx, rfl⟩
  · rw [get_none h]; exact Int.le_refl _
  · rw [get_some hv.2 hx]
    have := valid_iff.1 (hv.1 x hx)
    omega
theorem get_pos {v : List Dt} (hv : Vd v) {r : Int} (h : 0 < getV v r) : (r, getV v r) ∈ v := by
  rcases get_cases v r with h2 | ⟨x, hx, rfl⟩
  · rw [get_none h2] at h; omega
  · rw [get_some hv.2 hx]; exact hx
theorem get_mem {v : List Dt} (hv : Vd v) {x : Dt} : x ∈ v ↔ 0 < x.2 ∧ getV v x.1 = x.2 := by
  constructor
  · intro hx
    have := valid_iff.1 (hv.1 x hx)
    exact ⟨by omega, get_some hv.2 hx⟩
  · rintro ⟨h1, h2⟩
    have := get_pos hv (r := x.1) (by omega)
    rw [h2] at this
    exact this

/-- Two vectors with the same counters are one. -/
theorem inc_ext : ∀ {l m : List Dt}, Inc l → Inc m → (∀ x, x ∈ l ↔ x ∈ m) → l = m
  | [], [], _, _, _ => rfl
  | [], b :: m, _, _, h => absurd ((h b).2 (by simp)) (by simp)
  | a :: l, [], _, _, h => absurd ((h a).1 (by simp)) (by simp)
  | a :: l, b :: m, hl, hm, h => by
    unfold Inc at hl hm
    rw [List.pairwise_cons] at hl hm
    have hab : a = b := by
      rcases List.mem_cons.1 ((h a).1 (by simp)) with e | e
      · exact e
      · rcases List.mem_cons.1 ((h b).2 (by simp)) with e2 | e2
        · exact e2.symm
        · have h1 := hm.1 a e
          have h2 := hl.1 b e2
          omega
    subst hab
    congr 1
    refine inc_ext hl.2 hm.2 fun x => ?_
    constructor
    · intro hx
      rcases List.mem_cons.1 ((h x).1 (by simp [hx])) with e | e
      · subst e; have := hl.1 x hx; omega
      · exact e
    · intro hx
      rcases List.mem_cons.1 ((h x).2 (by simp [hx])) with e | e
      · subst e; have := hm.1 x hx; omega
      · exact e
theorem vd_ext {l m : List Dt} (hl : Vd l) (hm : Vd m) (h : ∀ r, getV l r = getV m r) : l = m :=
  inc_ext hl.2 hm.2 fun x => by rw [get_mem hl, get_mem hm, h]

/-! ### One more dot -/
/-- The reference's loop. -/
def raiseW (d : Dt) : Bool → List Dt → List Dt
  | done, [] => if done = true then [] else [d]
  | done, x :: t =>
    (if done = false ∧ d.1 ≤ x.1 then [d] else []) ++ (if x.1 ≠ d.1 then [x] else []) ++ raiseW d (done || decide (d.1 ≤ x.1)) t
def raiseR (v : List Dt) (d : Dt) : List Dt := if hasV v d = true then v else raiseW d false v
theorem raise_done : ∀ {v : List Dt} {d : Dt}, (∀ x ∈ v, d.1 < x.1) → raiseW d true v = v
  | [], _, _ => rfl
  | x :: t, d, h => by
    have := h x (by simp)
    rw [raiseW, if_neg (by simp), if_pos (by omega), Bool.true_or, raise_done fun y hy => h y (by simp [hy])]
    rfl
theorem raise_mem : ∀ {v : List Dt} {d : Dt}, Inc v → ∀ x, x ∈ raiseW d false v ↔ x = d ∨ (x ∈ v ∧ x.1 ≠ d.1)
  | [], d, _, x => by simp [raiseW]
  | y :: t, d, hv, x => by
    unfold Inc at hv
    rw [List.pairwise_cons] at hv
    rw [raiseW]
    by_cases h : d.1 ≤ y.1
    · rw [if_pos ⟨rfl, h⟩, Bool.false_or, decide_eq_true h, raise_done fun z hz => by have := hv.1 z hz; omega]
      by_cases e : y.1 = d.1
      · rw [if_neg (by simp [e])]
        simp only [List.append_nil, List.cons_append, List.nil_append, List.mem_cons]
        constructor
        · rintro (h1 | h1)
          · exact .inl h1
          · have := hv.1 x h1
            exact .inr ⟨.inr h1, by omega⟩
        · rintro (h1 | ⟨rfl | h1, h2⟩)
          · exact .inl h1
          · exact absurd e h2
          · exact .inr h1
      · rw [if_pos e]
        simp only [List.cons_append, List.nil_append, List.mem_cons]
        constructor
        · rintro (h1 | rfl | h1)
          · exact .inl h1
          · exact .inr ⟨.inl rfl, e⟩
          · have := hv.1 x h1
            exact .inr ⟨.inr h1, by omega⟩
        · rintro (h1 | ⟨h1, -⟩)
          · exact .inl h1
          · exact .inr h1
    · rw [if_neg (fun hh => h hh.2), if_pos (by omega), Bool.false_or, decide_eq_false h]
      simp only [List.nil_append, List.cons_append, List.mem_cons]
      rw [raise_mem hv.2 x]
      constructor
      · rintro (rfl | h1 | ⟨h1, h2⟩)
        · exact .inr ⟨.inl rfl, by omega⟩
        · exact .inl h1
        · exact .inr ⟨.inr h1, h2⟩
      · rintro (h1 | ⟨h1 | h1, h2⟩)
        · exact .inr (.inl h1)
        · exact .inl h1
        · exact .inr (.inr ⟨h1, h2⟩)
theorem raise_inc : ∀ {v : List Dt} {d : Dt}, Inc v → Inc (raiseW d false v)
  | [], d, _ => by simp [raiseW, Inc]
  | y :: t, d, hv => by
    have hv0 := hv
    unfold Inc at hv
    rw [List.pairwise_cons] at hv
    rw [raiseW]
    by_cases h : d.1 ≤ y.1
    · rw [if_pos ⟨rfl, h⟩, Bool.false_or, decide_eq_true h, raise_done fun z hz => by have := hv.1 z hz; omega]
      unfold Inc
      by_cases e : y.1 = d.1
      · rw [if_neg (by simp [e])]
        simp only [List.append_nil, List.cons_append, List.nil_append, List.pairwise_cons]
        exact ⟨fun z hz => by have := hv.1 z hz; omega, hv.2⟩
      · rw [if_pos e]
        simp only [List.cons_append, List.nil_append, List.pairwise_cons]
        refine ⟨fun z hz => ?_, hv.1, hv.2⟩
        rcases List.mem_cons.1 hz with rfl | hz
        · omega
        · have := hv.1 z hz; omega
    · rw [if_neg (fun hh => h hh.2), if_pos (by omega), Bool.false_or, decide_eq_false h]
      unfold Inc
      simp only [List.nil_append, List.cons_append, List.pairwise_cons]
      refine ⟨fun z hz => ?_, raise_inc hv.2⟩
      rcases (raise_mem hv.2 z).1 hz with rfl | ⟨h1, -⟩
      · omega
      · exact hv.1 z h1
theorem raise_vd {v : List Dt} {d : Dt} (hv : Vd v) (hd : validR d = true) : Vd (raiseR v d) := by
  unfold raiseR
  split
  · exact hv
  · refine ⟨fun x hx => ?_, raise_inc hv.2⟩
    rcases (raise_mem hv.2 x).1 hx with rfl | ⟨h1, -⟩
    · exact hd
    · exact hv.1 x h1
theorem raise_get {v : List Dt} {d : Dt} (hv : Vd v) (hd : validR d = true) (r : Int) : getV (raiseR v d) r = if r = d.1 then max (getV v r) d.2 else getV v r := by
  have hR := raise_vd hv hd
  unfold raiseR at hR ⊢
  by_cases h : hasV v d = true
  · rw [if_pos h]
    split
    · rename_i e
      subst e
      unfold hasV at h
      simp only [Bool.and_eq_true, decide_eq_true_eq] at h
      omega
    · rfl
  · rw [if_neg h] at hR ⊢
    have hlt : getV v d.1 < d.2 := by
      unfold hasV at h
      simp only [Bool.and_eq_true, decide_eq_true_eq, not_and] at h
      have := h hd
      omega
    split
    · rename_i e
      subst e
      have hm : d ∈ raiseW d false v := (raise_mem hv.2 d).2 (.inl rfl)
      rw [get_some hR.2 hm]
      omega
    · rename_i e
      rcases get_cases v r with h1 | ⟨x, hx, rfl⟩
      · rw [get_none h1, get_none]
        intro y hy
        rcases (raise_mem hv.2 y).1 hy with rfl | ⟨h2, -⟩
        · exact fun h => e h.symm
        · exact h1 y h2
      · rw [get_some hv.2 hx, get_some hR.2 ((raise_mem hv.2 x).2 (.inr ⟨hx, e⟩))]

/-! ### Merging -/
def mergeR (a b : List Dt) : List Dt := b.foldl raiseR a
theorem merge_both : ∀ {b a : List Dt}, Vd a → (∀ x ∈ b, validR x = true) → Vd (mergeR a b) ∧ ∀ r, getV (mergeR a b) r = b.foldl (fun n d => if r = d.1 then max n d.2 else n) (getV a r)
  | [], a, ha, _ => ⟨ha, fun _ => rfl⟩
  | d :: t, a, ha, hb => by
    have h1 := raise_vd ha (hb d (by simp))
    obtain ⟨h2, h3⟩ := merge_both (b := t) (a := raiseR a d) h1 (fun x hx => hb x (by simp [hx]))
    refine ⟨h2, fun r => ?_⟩
    have := h3 r
    rw [raise_get ha (hb d (by simp))] at this
    exact this
theorem fold_max (r : Int) : ∀ {b : List Dt} (n : Int), Inc b → (∀ x ∈ b, 0 < x.2) → 0 ≤ n → b.foldl (fun n d => if r = d.1 then max n d.2 else n) n = max n (getV b r)
  | [], n, _, _, hn => by
    show n = max n 0
    omega
  | d :: t, n, hb, hp, hn => by
    unfold Inc at hb
    rw [List.pairwise_cons] at hb
    rw [List.foldl_cons, getV]
    by_cases e : r = d.1
    · rw [if_pos e, if_pos e.symm, fold_max r _ hb.2 (fun x hx => hp x (by simp [hx])) (by omega), get_none fun x hx => by have := hb.1 x hx; omega]
      have := hp d (by simp)
      omega
    · rw [if_neg e, if_neg (fun h => e h.symm), fold_max r _ hb.2 (fun x hx => hp x (by simp [hx])) hn]
theorem merge_vd {a b : List Dt} (ha : Vd a) (hb : Vd b) : Vd (mergeR a b) := (merge_both ha hb.1).1
theorem merge_get {a b : List Dt} (ha : Vd a) (hb : Vd b) (r : Int) : getV (mergeR a b) r = max (getV a r) (getV b r) := by
  rw [(merge_both ha hb.1).2 r]
  exact fold_max r _ hb.2 (fun x hx => by have := valid_iff.1 (hb.1 x hx); omega) (get_ge ha r)
/-- What is valid and has the counters of a merge is the merge. -/
theorem merge_eq {a b m : List Dt} (ha : Vd a) (hb : Vd b) (hm : Vd m) (h : ∀ r, getV m r = max (getV a r) (getV b r)) : m = mergeR a b :=
  vd_ext hm (merge_vd ha hb) fun r => by rw [h, merge_get ha hb]
theorem merge_comm {a b : List Dt} (ha : Vd a) (hb : Vd b) : mergeR a b = mergeR b a := merge_eq hb ha (merge_vd ha hb) fun r => by rw [merge_get ha hb]; omega
theorem merge_self {a : List Dt} (ha : Vd a) : mergeR a a = a := (merge_eq ha ha ha fun r => by omega).symm
theorem merge_assoc {a b c : List Dt} (ha : Vd a) (hb : Vd b) (hc : Vd c) : mergeR (mergeR a b) c = mergeR a (mergeR b c) :=
  merge_eq ha (merge_vd hb hc) (merge_vd (merge_vd ha hb) hc) fun r => by rw [merge_get (merge_vd ha hb) hc, merge_get ha hb, merge_get hb hc]; omega
theorem has_merge {a b : List Dt} (ha : Vd a) (hb : Vd b) (d : Dt) : hasV (mergeR a b) d = (hasV a d || hasV b d) := by
  unfold hasV
  rw [merge_get ha hb]
  rcases validR d with _ | _
  · rfl
  · simp only [Bool.true_and, ← Bool.decide_or]
    apply decide_eq_decide.2
    omega
/-- The vector of some dots. -/
def ofR (l : List Dt) : List Dt := mergeR [] l
theorem of_vd {l : List Dt} (hl : ∀ x ∈ l, validR x = true) : Vd (ofR l) := (merge_both vd_nil hl).1

/-! ### Order -/
def withinV (a b : List Dt) : Bool := a.all fun d => hasV b d
theorem within_iff {a b : List Dt} (ha : Vd a) (hb : Vd b) : withinV a b = true ↔ ∀ r, getV a r ≤ getV b r := by
  unfold withinV
  rw [List.all_eq_true]
  constructor
  · intro h r
    rcases get_cases a r with h1 | ⟨x, hx, rfl⟩
    · rw [get_none h1]; exact get_ge hb r
    · have := h x hx
      unfold hasV at this
      simp only [Bool.and_eq_true, decide_eq_true_eq] at this
      rw [get_some ha.2 hx]
      exact this.2
  · intro h x hx
    unfold hasV
    rw [ha.1 x hx, Bool.true_and, decide_eq_true_eq, ← get_some ha.2 hx]
    exact h x.1
def orderR (a b : List Dt) : Int := if withinV a b = true then (if withinV b a = true then 0 else -1) else if withinV b a = true then 1 else 2
theorem order_zero {a b : List Dt} (ha : Vd a) (hb : Vd b) : orderR a b = 0 ↔ a = b := by
  unfold orderR
  constructor
  · intro h
    by_cases h1 : withinV a b = true
    · rw [if_pos h1] at h
      by_cases h2 : withinV b a = true
      · rw [within_iff ha hb] at h1
        rw [within_iff hb ha] at h2
        exact vd_ext ha hb fun r => by have := h1 r; have := h2 r; omega
      · rw [if_neg h2] at h; omega
    · rw [if_neg h1] at h
      split at h <;> omega
  · rintro rfl
    have : withinV a a = true := (within_iff ha ha).2 fun r => Int.le_refl _
    rw [if_pos this, if_pos this]
theorem order_merge {a b : List Dt} (ha : Vd a) (hb : Vd b) : orderR a (mergeR a b) = 0 ∨ orderR a (mergeR a b) = -1 := by
  have h : withinV a (mergeR a b) = true := (within_iff ha (merge_vd ha hb)).2 fun r => by rw [merge_get ha hb]; omega
  unfold orderR
  rw [if_pos h]
  split
  · exact .inl rfl
  · exact .inr rfl
end Go.Proofs.Ytefnoajkdhgonaa.E
