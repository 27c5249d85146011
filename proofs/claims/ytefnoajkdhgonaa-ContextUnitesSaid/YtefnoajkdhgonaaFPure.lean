/-
  Causal contexts, plainly: a vector and a cloud.
-/
import Derived.Test.YtefnoajkdhgonaaEPure
namespace Go.Proofs.Ytefnoajkdhgonaa.F
set_option linter.unusedVariables false
open D E

abbrev Ct := List Dt × List Dt
def validC (c : Ct) : Bool := validV c.1 && isSetR c.2 && c.2.all validR
def Vc (c : Ct) : Prop := Vd c.1 ∧ Srt c.2 ∧ ∀ x ∈ c.2, validR x = true
theorem valid_vc (c : Ct) : validC c = true ↔ Vc c := by
  unfold validC Vc
  simp only [Bool.and_eq_true, List.all_eq_true]
  rw [valid_vd, isSet_iff, and_assoc]
/-- Whether a dot is in a context. -/
def hasC (c : Ct) (d : Dt) : Bool := validR d && (hasV c.1 d || decide (d ∈ c.2))
theorem hasC_iff {c : Ct} {d : Dt} : hasC c d = true ↔ validR d = true ∧ (hasV c.1 d = true ∨ d ∈ c.2) := by
  unfold hasC
  simp only [Bool.and_eq_true, Bool.or_eq_true, decide_eq_true_eq]
theorem hasV_iff {v : List Dt} {d : Dt} : hasV v d = true ↔ validR d = true ∧ d.2 ≤ getV v d.1 := by
  unfold hasV
  simp only [Bool.and_eq_true, decide_eq_true_eq]
/-- In the vector, or directly behind it. -/
def nearC (v : List Dt) (d : Dt) : Bool := hasV v d || decide (d.2 = getV v d.1 + 1)
theorem near_no {v : List Dt} {d : Dt} (hd : validR d = true) : nearC v d = false ↔ getV v d.1 + 1 < d.2 := by
  unfold nearC hasV
  rw [hd, Bool.true_and]
  constructor
  · intro h
    simp only [Bool.or_eq_false_iff, decide_eq_false_iff_not] at h
    omega
  · intro h
    simp only [Bool.or_eq_false_iff, decide_eq_false_iff_not]
    omega
def isCompR (c : Ct) : Bool := (c.2.all fun d => !nearC c.1 d) && validC c
theorem comp_iff {c : Ct} : isCompR c = true ↔ Vc c ∧ ∀ x ∈ c.2, getV c.1 x.1 + 1 < x.2 := by
  unfold isCompR
  rw [Bool.and_eq_true, valid_vc, List.all_eq_true]
  constructor
  · rintro ⟨h1, h2⟩
    exact ⟨h2, fun x hx => (near_no (h2.2.2 x hx)).1 (by have := h1 x hx; simpa using this)⟩
  · rintro ⟨h1, h2⟩
    exact ⟨fun x hx => by rw [(near_no (h1.2.2 x hx)).2 (h2 x hx)]; rfl, h1⟩

/-! ### Compaction: one pass -/
/-- A pass over the cloud: the vector, what stays, what is still to come. -/
def passR : List Dt → List Dt → List Dt → Ct
  | v, rest, [] => (v, rest)
  | v, rest, d :: t =>
    if hasV v d = true then passR v rest t else if d.2 = getV v d.1 + 1 then passR (raiseR v d) rest t else passR v (rest ++ [d]) t
theorem raise_next {v : List Dt} {d : Dt} (hv : Vd v) (hd : validR d = true) (e : d.2 = getV v d.1 + 1) (x : Dt) : hasV (raiseR v d) x = true ↔ hasV v x = true ∨ x = d := by
  rw [hasV_iff, hasV_iff, raise_get hv hd]
  by_cases h : x.1 = d.1
  · rw [if_pos h]
    constructor
    · rintro ⟨h1, h2⟩
      by_cases h3 : x.2 ≤ getV v x.1
      · exact .inl ⟨h1, h3⟩
      · refine .inr (Prod.ext h ?_)
        rw [h] at h2 h3
        omega
    · rintro (⟨h1, h2⟩ | rfl)
      · exact ⟨h1, by omega⟩
      · exact ⟨hd, by omega⟩
  · rw [if_neg h]
    constructor
    · exact .inl
    · rintro (h1 | rfl)
      · exact h1
      · exact absurd rfl h
theorem pass_all : ∀ (cl v rest : List Dt), Vd v → Srt (rest ++ cl) → (∀ x ∈ rest ++ cl, validR x = true) → (∀ x ∈ rest, getV v x.1 + 1 < x.2) →
    Vc (passR v rest cl) ∧ (∀ x ∈ (passR v rest cl).2, getV (passR v rest cl).1 x.1 + 1 < x.2) ∧ ∀ x, hasC (passR v rest cl) x = true ↔ validR x = true ∧ (hasV v x = true ∨ x ∈ rest ∨ x ∈ cl)
  | [], v, rest, hv, hs, hd, hf => by
    rw [List.append_nil] at hs hd
    refine ⟨⟨hv, hs, hd⟩, hf, fun x => ?_⟩
    rw [hasC_iff]
    simp [passR]
  | d :: t, v, rest, hv, hs, hd, hf => by
    have hdv := hd d (by simp)
    have hs2 : Srt (rest ++ t) := by
      unfold Srt at hs ⊢
      rw [List.pairwise_append] at hs ⊢
      refine ⟨hs.1, (List.pairwise_cons.1 hs.2.1).2, fun a ha b hb => hs.2.2 a ha b (by simp [hb])⟩
    have hd2 : ∀ x ∈ rest ++ t, validR x = true := fun x hx => hd x (by
      rcases List.mem_append.1 hx with h | h
      · simp [h]
      · simp [h])
    by_cases h1 : hasV v d = true
    · obtain ⟨k1, k2, k3⟩ := pass_all t v rest hv hs2 hd2 hf
      rw [passR, if_pos h1]
      refine ⟨k1, k2, fun x => (k3 x).trans ?_⟩
      constructor
      · rintro ⟨a, b | b | b⟩
        · exact ⟨a, .inl b⟩
        · exact ⟨a, .inr (.inl b)⟩
        · exact ⟨a, .inr (.inr (by simp [b]))⟩
      · rintro ⟨a, b | b | b⟩
        · exact ⟨a, .inl b⟩
        · exact ⟨a, .inr (.inl b)⟩
        · rcases List.mem_cons.1 b with rfl | b
          · exact ⟨a, .inl h1⟩
          · exact ⟨a, .inr (.inr b)⟩
    · by_cases h2 : d.2 = getV v d.1 + 1
      · -- nothing of this replica is left behind
        have hno : ∀ x ∈ rest, x.1 ≠ d.1 := fun x hx e => by
          have h3 := hf x hx
          have h4 : less x d = true := by
            unfold Srt at hs
            rw [List.pairwise_append] at hs
            exact hs.2.2 x hx d (by simp)
          rw [less_iff] at h4
          rw [e] at h3
          omega
        obtain ⟨k1, k2, k3⟩ := pass_all t (raiseR v d) rest (raise_vd hv hdv) hs2 hd2 fun x hx => by
          rw [raise_get hv hdv, if_neg (hno x hx)]
          exact hf x hx
        rw [passR, if_neg h1, if_pos h2]
        refine ⟨k1, k2, fun x => (k3 x).trans ?_⟩
        rw [raise_next hv hdv h2]
        constructor
        · rintro ⟨a, (b | rfl) | b | b⟩
          · exact ⟨a, .inl b⟩
          · exact ⟨a, .inr (.inr (by simp))⟩
          · exact ⟨a, .inr (.inl b)⟩
          · exact ⟨a, .inr (.inr (by simp [b]))⟩
        · rintro ⟨a, b | b | b⟩
          · exact ⟨a, .inl (.inl b)⟩
          · exact ⟨a, .inr (.inl b)⟩
          · rcases List.mem_cons.1 b with rfl | b
            · exact ⟨a, .inl (.inr rfl)⟩
            · exact ⟨a, .inr (.inr b)⟩
      · have hfar : getV v d.1 + 1 < d.2 := by
          rw [hasV_iff] at h1
          have : ¬ d.2 ≤ getV v d.1 := fun h => h1 ⟨hdv, h⟩
          omega
        obtain ⟨k1, k2, k3⟩ := pass_all t v (rest ++ [d]) hv (by simpa using hs) (by simpa using hd) fun x hx => by
          rcases List.mem_append.1 hx with h | h
          · exact hf x h
          · rw [List.mem_singleton.1 h]; exact hfar
        rw [passR, if_neg h1, if_neg h2]
        refine ⟨k1, k2, fun x => (k3 x).trans ?_⟩
        simp only [List.mem_append, List.mem_singleton, List.mem_cons, List.not_mem_nil, or_assoc, false_or]
def compC (c : Ct) : Ct := passR c.1 [] c.2
theorem comp_ok {c : Ct} (hc : Vc c) : isCompR (compC c) = true ∧ ∀ x, hasC (compC c) x = hasC c x := by
  obtain ⟨k1, k2, k3⟩ := pass_all c.2 c.1 [] hc.1 hc.2.1 hc.2.2 (fun x h => by simp at h)
  refine ⟨comp_iff.2 ⟨k1, k2⟩, fun x => ?_⟩
  rw [Bool.eq_iff_iff]
  refine (k3 x).trans ?_
  rw [hasC_iff]
  simp
theorem comp_vc {c : Ct} (hc : Vc c) : Vc (compC c) := (comp_iff.1 (comp_ok hc).1).1
/-- There is one compact context with these dots. -/
theorem comp_get {a b : Ct} (ha : isCompR a = true) (hb : isCompR b = true) (h : ∀ x, hasC a x = true → hasC b x = true) (r : Int) : getV a.1 r ≤ getV b.1 r := by
  obtain ⟨a1, a2⟩ := comp_iff.1 ha
  obtain ⟨b1, b2⟩ := comp_iff.1 hb
  rcases Int.lt_or_le (getV b.1 r) (getV a.1 r) with hlt | hle
  · -- the dot behind b's beginning is in a's
    have hp := get_pos a1.1 (r := r) (by have := get_ge b1.1 r; omega)
    have hv := valid_iff.1 (a1.1.1 _ hp)
    have hge := get_ge b1.1 r
    have hx : validR (r, getV b.1 r + 1) = true := valid_iff.2 ⟨hv.1, hv.2.1, by show 0 < getV b.1 r + 1; omega, by show getV b.1 r + 1 ≤ 4294967295; have := hv.2.2.2; show _; simp only at this; omega⟩
    have hin : hasC a (r, getV b.1 r + 1) = true := hasC_iff.2 ⟨hx, .inl (hasV_iff.2 ⟨hx, by show getV b.1 r + 1 ≤ getV a.1 r; omega⟩)⟩
    rcases (hasC_iff.1 (h _ hin)).2 with k | k
    · have := (hasV_iff.1 k).2
      simp only at this
      omega
    · have := b2 _ k
      simp only at this
      omega
  · exact hle
theorem comp_uniq {a b : Ct} (ha : isCompR a = true) (hb : isCompR b = true) (h : ∀ x, hasC a x = hasC b x) : a = b := by
  obtain ⟨a1, a2⟩ := comp_iff.1 ha
  obtain ⟨b1, b2⟩ := comp_iff.1 hb
  have hv : a.1 = b.1 := vd_ext a1.1 b1.1 fun r => by
    have h1 := comp_get ha hb (fun x hx => by rw [← h]; exact hx) r
    have h2 := comp_get hb ha (fun x hx => by rw [h]; exact hx) r
    omega
  refine Prod.ext hv (srt_ext a1.2.1 b1.2.1 fun x => ?_)
  have key : ∀ {p q : Ct}, (Vc p ∧ ∀ x ∈ p.2, getV p.1 x.1 + 1 < x.2) → p.1 = q.1 → (∀ x, hasC p x = true → hasC q x = true) → x ∈ p.2 → x ∈ q.2 := by
    rintro p q ⟨p1, p2⟩ e hh hx
    have hxv := p1.2.2 x hx
    rcases (hasC_iff.1 (hh x (hasC_iff.2 ⟨hxv, .inr hx⟩))).2 with k | k
    · have h1 := (hasV_iff.1 k).2
      have h2 := p2 x hx
      rw [e] at h2
      omega
    · exact k
  exact ⟨key ⟨a1, a2⟩ hv (fun y hy => by rw [← h]; exact hy), key ⟨b1, b2⟩ hv.symm (fun y hy => by rw [h]; exact hy)⟩
theorem comp_self {c : Ct} (hc : isCompR c = true) : compC c = c := comp_uniq (comp_ok (comp_iff.1 hc).1).1 hc (comp_ok (comp_iff.1 hc).1).2
/-- Whatever is compact and has these dots is what Compact returns. -/
theorem comp_eq {c m : Ct} (hc : Vc c) (hm : isCompR m = true) (h : ∀ x, hasC m x = hasC c x) : m = compC c := comp_uniq hm (comp_ok hc).1 fun x => by rw [h, (comp_ok hc).2]
theorem comp_same {a b : Ct} (ha : Vc a) (hb : Vc b) : compC a = compC b ↔ ∀ x, hasC a x = hasC b x := by
  constructor
  · intro h x
    rw [← (comp_ok ha).2, ← (comp_ok hb).2, h]
  · intro h
    exact comp_uniq (comp_ok ha).1 (comp_ok hb).1 fun x => by rw [(comp_ok ha).2, (comp_ok hb).2, h]

/-! ### Union, more dots, within -/
def unionC (a b : Ct) : Ct := compC (mergeR a.1 b.1, unionR a.2 b.2)
theorem union_pre {a b : Ct} (ha : Vc a) (hb : Vc b) : Vc (mergeR a.1 b.1, unionR a.2 b.2) := ⟨merge_vd ha.1 hb.1, srt_union _ _, fun x hx => by
  rcases mem_union.1 hx with h | h
  · exact ha.2.2 x h
  · exact hb.2.2 x h⟩
theorem union_has {a b : Ct} (ha : Vc a) (hb : Vc b) (x : Dt) : hasC (unionC a b) x = (hasC a x || hasC b x) := by
  unfold unionC
  rw [(comp_ok (union_pre ha hb)).2, Bool.eq_iff_iff, Bool.or_eq_true, hasC_iff, hasC_iff, hasC_iff]
  simp only [has_merge ha.1 hb.1, Bool.or_eq_true, mem_union]
  constructor
  · rintro ⟨h, (k | k) | k | k⟩
    · exact .inl ⟨h, .inl k⟩
    · exact .inr ⟨h, .inl k⟩
    · exact .inl ⟨h, .inr k⟩
    · exact .inr ⟨h, .inr k⟩
  · rintro (⟨h, k | k⟩ | ⟨h, k | k⟩)
    · exact ⟨h, .inl (.inl k)⟩
    · exact ⟨h, .inr (.inl k)⟩
    · exact ⟨h, .inl (.inr k)⟩
    · exact ⟨h, .inr (.inr k)⟩
theorem union_comp {a b : Ct} (ha : Vc a) (hb : Vc b) : isCompR (unionC a b) = true := (comp_ok (union_pre ha hb)).1
theorem union_vc {a b : Ct} (ha : Vc a) (hb : Vc b) : Vc (unionC a b) := (comp_iff.1 (union_comp ha hb)).1
theorem union_comm {a b : Ct} (ha : Vc a) (hb : Vc b) : unionC a b = unionC b a :=
  comp_uniq (union_comp ha hb) (union_comp hb ha) fun x => by rw [union_has ha hb, union_has hb ha, Bool.or_comm]
theorem union_assoc {a b c : Ct} (ha : Vc a) (hb : Vc b) (hc : Vc c) : unionC (unionC a b) c = unionC a (unionC b c) :=
  comp_uniq (union_comp (union_vc ha hb) hc) (union_comp ha (union_vc hb hc)) fun x => by
    rw [union_has (union_vc ha hb) hc, union_has ha hb, union_has ha (union_vc hb hc), union_has hb hc, Bool.or_assoc]
def addC (c : Ct) (l : List Dt) : Ct := compC (c.1, unionR c.2 l)
theorem add_pre {c : Ct} {l : List Dt} (hc : Vc c) (hl : ∀ x ∈ l, validR x = true) : Vc (c.1, unionR c.2 l) := ⟨hc.1, srt_union _ _, fun x hx => by
  rcases mem_union.1 hx with h | h
  · exact hc.2.2 x h
  · exact hl x h⟩
theorem add_has {c : Ct} {l : List Dt} (hc : Vc c) (hl : ∀ x ∈ l, validR x = true) (x : Dt) : hasC (addC c l) x = true ↔ hasC c x = true ∨ x ∈ l := by
  unfold addC
  rw [(comp_ok (add_pre hc hl)).2, hasC_iff, hasC_iff]
  simp only [mem_union]
  constructor
  · rintro ⟨h, k | k | k⟩
    · exact .inl ⟨h, .inl k⟩
    · exact .inl ⟨h, .inr k⟩
    · exact .inr k
  · rintro (⟨h, k | k⟩ | k)
    · exact ⟨h, .inl k⟩
    · exact ⟨h, .inr (.inl k)⟩
    · exact ⟨hl x k, .inr (.inr k)⟩
theorem add_comp {c : Ct} {l : List Dt} (hc : Vc c) (hl : ∀ x ∈ l, validR x = true) : isCompR (addC c l) = true := (comp_ok (add_pre hc hl)).1
theorem add_vc {c : Ct} {l : List Dt} (hc : Vc c) (hl : ∀ x ∈ l, validR x = true) : Vc (addC c l) := (comp_iff.1 (add_comp hc hl)).1
/-- More dots, one after the other, and all at once, in any order. -/
theorem add_add {c : Ct} {l m n : List Dt} (hc : Vc c) (hl : ∀ x ∈ l, validR x = true) (hm : ∀ x ∈ m, validR x = true) (hn : ∀ x, x ∈ n ↔ x ∈ l ∨ x ∈ m) : addC (addC c l) m = addC c n := by
  have hnv : ∀ x ∈ n, validR x = true := fun x hx => by
    rcases (hn x).1 hx with h | h
    · exact hl x h
    · exact hm x h
  refine comp_uniq (add_comp (add_vc hc hl) hm) (add_comp hc hnv) fun x => ?_
  rw [Bool.eq_iff_iff, add_has (add_vc hc hl) hm, add_has hc hl, add_has hc hnv, hn, or_assoc]
def withinC (a b : Ct) : Bool := (a.2.all fun d => hasC (compC b) d) && withinV a.1 (compC b).1
theorem within_iffC {a b : Ct} (ha : Vc a) (hb : Vc b) : withinC a b = true ↔ ∀ x, hasC a x = true → hasC b x = true := by
  have hcb := comp_ok hb
  obtain ⟨c1, c2⟩ := comp_iff.1 hcb.1
  unfold withinC
  rw [Bool.and_eq_true, List.all_eq_true, E.within_iff ha.1 c1.1]
  constructor
  · rintro ⟨h1, h2⟩ x hx
    rw [← hcb.2]
    obtain ⟨h3, h4 | h4⟩ := hasC_iff.1 hx
    · exact hasC_iff.2 ⟨h3, .inl (hasV_iff.2 ⟨h3, by have := (hasV_iff.1 h4).2; have := h2 x.1; omega⟩)⟩
    · exact h1 x h4
  · intro h
    refine ⟨fun x hx => by rw [hcb.2]; exact h x (hasC_iff.2 ⟨ha.2.2 x hx, .inr hx⟩), fun r => ?_⟩
    have hA : isCompR (a.1, []) = true := comp_iff.2 ⟨⟨ha.1, srt_nil, fun x hx => by simp at hx⟩, fun x hx => by simp at hx⟩
    exact comp_get hA hcb.1 (fun x hx => by
      rw [hcb.2]
      obtain ⟨h3, h4 | h4⟩ := hasC_iff.1 hx
      · exact h x (hasC_iff.2 ⟨h3, .inl h4⟩)
      · simp at h4) r
theorem within_both {a b : Ct} (ha : Vc a) (hb : Vc b) : compC a = compC b ↔ withinC a b = true ∧ withinC b a = true := by
  rw [comp_same ha hb, within_iffC ha hb, within_iffC hb ha]
  constructor
  · intro h
    exact ⟨fun x hx => by rw [← h]; exact hx, fun x hx => by rw [h]; exact hx⟩
  · rintro ⟨h1, h2⟩ x
    rw [Bool.eq_iff_iff]
    exact ⟨h1 x, h2 x⟩

/-! ### How many dots -/
def sumV (v : List Dt) : Int := (v.map (·.2)).sum
def sizeC (c : Ct) : Int := sumV c.1 + ((c.2.filter fun d => !hasV c.1 d).length : Int)
theorem sum_cons (x : Dt) (t : List Dt) : sumV (x :: t) = x.2 + sumV t := by unfold sumV; simp
theorem raise_sumW : ∀ {v : List Dt} {d : Dt}, Inc v → sumV (raiseW d false v) = sumV v - getV v d.1 + d.2
  | [], d, _ => by
    show sumV [d] = sumV [] - 0 + d.2
    rw [sum_cons]
    show d.2 + 0 = 0 - 0 + d.2
    omega
  | x :: t, d, hv => by
    have hv0 := hv
    unfold Inc at hv
    rw [List.pairwise_cons] at hv
    rw [raiseW]
    by_cases h : d.1 ≤ x.1
    · rw [if_pos ⟨rfl, h⟩, Bool.false_or, decide_eq_true h, raise_done fun z hz => by have := hv.1 z hz; omega]
      by_cases e : x.1 = d.1
      · rw [if_neg (by simp [e])]
        simp only [List.append_nil, List.cons_append, List.nil_append]
        rw [sum_cons, sum_cons, getV, if_pos e]
        omega
      · rw [if_pos e]
        simp only [List.cons_append, List.nil_append]
        rw [sum_cons, sum_cons, get_none fun z hz => ?_]
        · omega
        · rcases List.mem_cons.1 hz with rfl | hz
          · exact e
          · have := hv.1 z hz; omega
    · rw [if_neg (fun hh => h hh.2), if_pos (by omega), Bool.false_or, decide_eq_false h]
      simp only [List.nil_append, List.cons_append]
      rw [sum_cons, raise_sumW hv.2, sum_cons, getV, if_neg (by omega)]
      omega
theorem raise_sum {v : List Dt} {d : Dt} (hv : Vd v) (hd : validR d = true) (e : d.2 = getV v d.1 + 1) : sumV (raiseR v d) = sumV v + 1 := by
  unfold raiseR
  rw [if_neg, raise_sumW hv.2]
  · omega
  · rw [hasV_iff]
    omega
/-- A pass keeps how many dots there are. -/
theorem pass_size : ∀ (cl v rest : List Dt), Vd v → Srt (rest ++ cl) → (∀ x ∈ rest ++ cl, validR x = true) → (∀ x ∈ rest, getV v x.1 + 1 < x.2) →
    sizeC (passR v rest cl) = sumV v + (rest.length : Int) + ((cl.filter fun d => !hasV v d).length : Int)
  | [], v, rest, hv, hs, hd, hf => by
    show sumV v + ((rest.filter fun d => !hasV v d).length : Int) = _
    rw [List.filter_eq_self.2 fun x hx => ?_]
    · simp
    · have h1 := hf x hx
      have : hasV v x ≠ true := by rw [Ne, hasV_iff]; omega
      simpa using this
  | d :: t, v, rest, hv, hs, hd, hf => by
    have hdv := hd d (by simp)
    have hsd : ∀ x ∈ t, less d x = true := by
      unfold Srt at hs
      rw [List.pairwise_append, List.pairwise_cons] at hs
      exact hs.2.1.1
    have hs2 : Srt (rest ++ t) := by
      unfold Srt at hs ⊢
      rw [List.pairwise_append] at hs ⊢
      refine ⟨hs.1, (List.pairwise_cons.1 hs.2.1).2, fun a ha b hb => hs.2.2 a ha b (by simp [hb])⟩
    have hd2 : ∀ x ∈ rest ++ t, validR x = true := fun x hx => hd x (by
      rcases List.mem_append.1 hx with h | h
      · simp [h]
      · simp [h])
    by_cases h1 : hasV v d = true
    · rw [passR, if_pos h1, pass_size t v rest hv hs2 hd2 hf, List.filter_cons, if_neg (by simp [h1])]
    · have h1b : (!hasV v d) = true := by simpa using h1
      by_cases h2 : d.2 = getV v d.1 + 1
      · have hno : ∀ x ∈ rest, x.1 ≠ d.1 := fun x hx e => by
          have h3 := hf x hx
          have h4 : less x d = true := by
            unfold Srt at hs
            rw [List.pairwise_append] at hs
            exact hs.2.2 x hx d (by simp)
          rw [less_iff] at h4
          rw [e] at h3
          omega
        rw [passR, if_neg h1, if_pos h2, pass_size t (raiseR v d) rest (raise_vd hv hdv) hs2 hd2 fun x hx => by
          rw [raise_get hv hdv, if_neg (hno x hx)]
          exact hf x hx, raise_sum hv hdv h2, List.filter_cons, if_pos h1b]
        have e : (t.filter fun x => !hasV (raiseR v d) x) = t.filter fun x => !hasV v x := by
          refine List.filter_congr fun x hx => ?_
          congr 1
          rw [Bool.eq_iff_iff, raise_next hv hdv h2]
          constructor
          · rintro (h | rfl)
            · exact h
            · have := hsd _ hx
              rw [less_irr] at this
              cases this
          · exact .inl
        rw [e, List.length_cons]
        omega
      · have hfar : getV v d.1 + 1 < d.2 := by
          rw [hasV_iff] at h1
          have : ¬ d.2 ≤ getV v d.1 := fun h => h1 ⟨hdv, h⟩
          omega
        rw [passR, if_neg h1, if_neg h2, pass_size t v (rest ++ [d]) hv (by simpa using hs) (by simpa using hd) (fun x hx => by
          rcases List.mem_append.1 hx with h | h
          · exact hf x h
          · rw [List.mem_singleton.1 h]; exact hfar), List.filter_cons, if_pos h1b, List.length_append, List.length_cons]
        simp
        omega
theorem comp_size {c : Ct} (hc : Vc c) : sizeC (compC c) = sizeC c := by
  unfold compC
  rw [pass_size c.2 c.1 [] hc.1 hc.2.1 hc.2.2 (fun x h => by simp at h)]
  unfold sizeC
  simp
end Go.Proofs.Ytefnoajkdhgonaa.F
