/-
  Nodes, plainly: which are valid, which stand before others, which agree, what they are merged to.
-/
import Derived.Test.YtkcbekebleodaaaGreatMDText
import Derived.Test.YtkcbekebleodaaaGreatRHex

section
namespace Go.Proofs.YtkcbekebleodaaaGreat.Nd
set_option linter.unusedVariables false
open D

/-- A node: its dot, its parent, its time, its rune. -/
abbrev Nt := Dt × Dt × Int × Int
def zeroN : Nt := ((0, 0), (0, 0), 0, 0)
def validN (n : Nt) : Bool := validR n.1 && (rootR n.2.1 || validR n.2.1) && !decide (n.2.1 = n.1) && decide (1 ≤ n.2.2.1) && decide (n.2.2.1 ≤ 4611686018427387904) && (decide (n.2.2.2 = 0) || R.vld n.2.2.2)
def VN (n : Nt) : Prop := validR n.1 = true ∧ named n.2.1 ∧ n.2.1 ≠ n.1 ∧ 1 ≤ n.2.2.1 ∧ n.2.2.1 ≤ 4611686018427387904 ∧ (n.2.2.2 = 0 ∨ R.vld n.2.2.2 = true)
theorem valid_vn {n : Nt} : validN n = true ↔ VN n := by
  unfold validN VN named
  simp only [Bool.and_eq_true, Bool.or_eq_true, Bool.not_eq_true', decide_eq_true_eq, decide_eq_false_iff_not]
  constructor
  · rintro ⟨⟨⟨⟨⟨h1, h2⟩, h3⟩, h4⟩, h5⟩, h6⟩
    exact ⟨h1, h2.symm, h3, h4, h5, h6⟩
  · rintro ⟨h1, h2, h3, h4, h5, h6⟩
    exact ⟨⟨⟨⟨⟨h1, h2.symm⟩, h3⟩, h4⟩, h5⟩, h6⟩
def killN (n : Nt) : Nt := (n.1, n.2.1, n.2.2.1, 0)
def deadN (n : Nt) : Bool := decide (n.2.2.2 = 0)
def beforeN (a b : Nt) : Bool := if a.2.2.1 = b.2.2.1 then less b.1 a.1 else decide (b.2.2.1 < a.2.2.1)
def agreeN (a b : Nt) : Bool := decide (a.1 = b.1) && decide (a.2.1 = b.2.1) && decide (a.2.2.1 = b.2.2.1) && (decide (a.2.2.2 = b.2.2.2) || decide (a.2.2.2 = 0) || decide (b.2.2.2 = 0))
def mergeN (a b : Nt) : Nt × Int := if (validN a && validN b) = true then (if agreeN a b = true then (if b.2.2.2 = 0 then b else a, 0) else (zeroN, 15)) else (zeroN, 2)
theorem agree_iff {a b : Nt} : agreeN a b = true ↔ a.1 = b.1 ∧ a.2.1 = b.2.1 ∧ a.2.2.1 = b.2.2.1 ∧ (a.2.2.2 = b.2.2.2 ∨ a.2.2.2 = 0 ∨ b.2.2.2 = 0) := by
  unfold agreeN
  simp only [Bool.and_eq_true, Bool.or_eq_true, decide_eq_true_eq]
  constructor
  · rintro ⟨⟨⟨h1, h2⟩, h3⟩, (h4 | h4) | h4⟩
    · exact ⟨h1, h2, h3, .inl h4⟩
    · exact ⟨h1, h2, h3, .inr (.inl h4)⟩
    · exact ⟨h1, h2, h3, .inr (.inr h4)⟩
  · rintro ⟨h1, h2, h3, h4 | h4 | h4⟩
    · exact ⟨⟨⟨h1, h2⟩, h3⟩, .inl (.inl h4)⟩
    · exact ⟨⟨⟨h1, h2⟩, h3⟩, .inl (.inr h4)⟩
    · exact ⟨⟨⟨h1, h2⟩, h3⟩, .inr h4⟩
theorem node_ext {a b : Nt} (h1 : a.1 = b.1) (h2 : a.2.1 = b.2.1) (h3 : a.2.2.1 = b.2.2.1) (h4 : a.2.2.2 = b.2.2.2) : a = b := Prod.ext h1 (Prod.ext h2 (Prod.ext h3 h4))

/-! ### Before -/
theorem before_iff {a b : Nt} : beforeN a b = true ↔ b.2.2.1 < a.2.2.1 ∨ (a.2.2.1 = b.2.2.1 ∧ less b.1 a.1 = true) := by
  unfold beforeN
  split
  · rename_i h
    exact ⟨fun k => .inr ⟨h, k⟩, fun k => k.elim (fun k => absurd h (by omega)) (·.2)⟩
  · rename_i h
    rw [decide_eq_true_eq]
    exact ⟨.inl, fun k => k.elim id fun k => absurd k.1 h⟩
theorem before_irr (a : Nt) : beforeN a a = false := by
  rw [← Bool.not_eq_true, before_iff]
  rintro (h | ⟨_, h⟩)
  · omega
  · rw [less_irr] at h; cases h
theorem before_trans {a b c : Nt} (h : beforeN a b = true) (k : beforeN b c = true) : beforeN a c = true := by
  rw [before_iff] at *
  rcases h with h | ⟨h1, h2⟩ <;> rcases k with k | ⟨k1, k2⟩
  · left; omega
  · left; omega
  · left; omega
  · right; exact ⟨by omega, less_trans k2 h2⟩
theorem before_asymm {a b : Nt} (h : beforeN a b = true) : beforeN b a = false := by
  rw [← Bool.not_eq_true]
  intro k
  have := before_trans h k
  rw [before_irr] at this; cases this
/-- Of two nodes with different times or dots just one stands before the other one. -/
theorem before_one (a b : Nt) : (beforeN a b || beforeN b a) = (!decide (a.2.2.1 = b.2.2.1) || !decide (a.1 = b.1)) := by
  rw [Bool.eq_iff_iff]
  simp only [Bool.or_eq_true, before_iff, Bool.not_eq_true', decide_eq_false_iff_not]
  constructor
  · rintro ((h | ⟨h1, h2⟩) | (h | ⟨h1, h2⟩))
    · left; omega
    · right; exact fun e => less_ne h2 e.symm
    · left; omega
    · right; exact fun e => less_ne h2 e
  · intro h
    by_cases ht : a.2.2.1 = b.2.2.1
    · have hd : a.1 ≠ b.1 := h.elim (fun k => absurd ht k) id
      rcases h1 : less b.1 a.1 with _ | _
      · rcases h2 : less a.1 b.1 with _ | _
        · exact absurd (less_tri h2 h1) hd
        · exact .inr (.inr ⟨ht.symm, rfl⟩)
      · exact .inl (.inr ⟨ht, rfl⟩)
    · rcases Int.lt_or_lt_of_ne ht with k | k
      · exact .inr (.inl k)
      · exact .inl (.inl k)

/-! ### Merge -/
theorem agree_comm (a b : Nt) : agreeN a b = agreeN b a := by
  rw [Bool.eq_iff_iff, agree_iff, agree_iff]
  constructor
  · rintro ⟨h1, h2, h3, h4⟩
    exact ⟨h1.symm, h2.symm, h3.symm, h4.elim (fun h => .inl h.symm) fun h => .inr h.symm⟩
  · rintro ⟨h1, h2, h3, h4⟩
    exact ⟨h1.symm, h2.symm, h3.symm, h4.elim (fun h => .inl h.symm) fun h => .inr h.symm⟩
theorem agree_self (a : Nt) : agreeN a a = true := agree_iff.2 ⟨rfl, rfl, rfl, .inl rfl⟩
theorem merge_yes {a b : Nt} (h : (mergeN a b).2 = 0) : validN a = true ∧ validN b = true ∧ agreeN a b = true ∧ (mergeN a b).1 = if b.2.2.2 = 0 then b else a := by
  unfold mergeN at h ⊢
  split at h
  · rename_i hv
    split at h
    · rename_i ha
      rw [if_pos hv, if_pos ha]
      rw [Bool.and_eq_true] at hv
      exact ⟨hv.1, hv.2, ha, rfl⟩
    · cases h
  · cases h
theorem merge_dead {a b : Nt} (h : (mergeN a b).2 = 0) : deadN (mergeN a b).1 = (deadN a || deadN b) ∧ validN (mergeN a b).1 = true := by
  obtain ⟨h1, h2, h3, h4⟩ := merge_yes h
  rw [h4]
  unfold deadN
  by_cases hb : b.2.2.2 = 0
  · rw [if_pos hb]; exact ⟨by simp [hb], h2⟩
  · rw [if_neg hb]; exact ⟨by simp [hb], h1⟩

/-! ### What is written -/

/-! ### The parts between spaces -/

/-! ### What is read -/
end Go.Proofs.YtkcbekebleodaaaGreat.Nd
end

/-
  Stores, plainly: lists of nodes whose dots increase; what stands at a dot; one more node; the store of some nodes.
-/
section
namespace Go.Proofs.YtkcbekebleodaaaGreat.Qs
set_option linter.unusedVariables false
open D Nd

def SrtN (l : List Nt) : Prop := l.Pairwise fun a b => less a.1 b.1 = true
def validS (l : List Nt) : Bool := l.all validN && isSetR (l.map (·.1))
theorem srt_map {l : List Nt} : Srt (l.map (·.1)) ↔ SrtN l := List.pairwise_map
theorem validS_iff {l : List Nt} : validS l = true ↔ (∀ x ∈ l, validN x = true) ∧ SrtN l := by
  unfold validS
  rw [Bool.and_eq_true, List.all_eq_true, isSet_iff, srt_map]
theorem validS_at {l : List Nt} (h1 : ∀ i (hi : i < l.length), validN l[i] = true) (h2 : ∀ i (hi : i + 1 < l.length), less l[i].1 l[i + 1].1 = true) : validS l = true := by
  unfold validS
  rw [Bool.and_eq_true, List.all_eq_true]
  refine ⟨fun x hx => ?_, isSet_at _ fun i hi => ?_⟩
  · obtain ⟨i, hi, rfl⟩ := List.mem_iff_getElem.1 hx
    exact h1 i hi
  · simp only [List.getElem_map]
    exact h2 i (by simpa using hi)
theorem validS_no1 {l : List Nt} (i : Nat) (hi : i < l.length) (h : validN l[i] = false) : validS l = false := by
  rw [← Bool.not_eq_true, validS_iff]
  intro k
  rw [k.1 _ (List.getElem_mem hi)] at h
  cases h
theorem validS_no2 {l : List Nt} (i : Nat) (hi : i + 1 < l.length) (h : less l[i].1 l[i + 1].1 = false) : validS l = false := by
  rw [← Bool.not_eq_true, validS_iff]
  intro k
  rw [List.pairwise_iff_getElem.1 k.2 i (i + 1) (by omega) hi (by omega)] at h
  cases h
/-! ### What stands at a dot -/
def atS (l : List Nt) (d : Dt) : Option Nt := l.find? fun n => decide (n.1 = d)
theorem at_some {l : List Nt} {d : Dt} {n : Nt} (h : atS l d = some n) : n ∈ l ∧ n.1 = d := ⟨List.mem_of_find?_eq_some h, by simpa using List.find?_some h⟩
theorem at_none {l : List Nt} {d : Dt} : atS l d = none ↔ ∀ n ∈ l, n.1 ≠ d := by unfold atS; rw [List.find?_eq_none]; simp
theorem at_mem {l : List Nt} (hs : SrtN l) {n : Nt} (hn : n ∈ l) : atS l n.1 = some n := by
  rcases h : atS l n.1 with _ | m
  · exact absurd rfl (at_none.1 h n hn)
  · obtain ⟨h1, h2⟩ := at_some h
    obtain ⟨i, hi, rfl⟩ := List.mem_iff_getElem.1 hn
    obtain ⟨j, hj, rfl⟩ := List.mem_iff_getElem.1 h1
    rcases Nat.lt_trichotomy i j with k | rfl | k
    · have := List.pairwise_iff_getElem.1 hs i j hi hj k
      exact absurd h2 (less_ne this).symm
    · rfl
    · have := List.pairwise_iff_getElem.1 hs j i hj hi k
      exact absurd h2 (less_ne this)
theorem at_iff {l : List Nt} (hs : SrtN l) {n : Nt} : n ∈ l ↔ atS l n.1 = some n := ⟨at_mem hs, fun h => (at_some h).1⟩
theorem srt_ext2 : ∀ {l m : List Nt}, SrtN l → SrtN m → (∀ x, x ∈ l ↔ x ∈ m) → l = m
  | [], [], _, _, _ => rfl
  | [], b :: m, _, _, h => absurd ((h b).2 (by simp)) (by simp)
  | a :: l, [], _, _, h => absurd ((h a).1 (by simp)) (by simp)
  | a :: l, b :: m, hl, hm, h => by
    unfold SrtN at hl hm
    rw [List.pairwise_cons] at hl hm
    have hab : a = b := by
      rcases List.mem_cons.1 ((h a).1 (by simp)) with e | e
      · exact e
      · rcases List.mem_cons.1 ((h b).2 (by simp)) with e2 | e2
        · exact e2.symm
        · have h1 := hm.1 a e
          have h2 := hl.1 b e2
          rw [less_asymm h1] at h2
          cases h2
    subst hab
    congr 1
    refine srt_ext2 hl.2 hm.2 fun x => ?_
    have h1 : x ∈ l → x ≠ a := fun hx e => by subst e; exact absurd rfl (less_ne (hl.1 x hx))
    have h2 : x ∈ m → x ≠ a := fun hx e => by subst e; exact absurd rfl (less_ne (hm.1 x hx))
    constructor
    · intro hx
      exact (List.mem_cons.1 ((h x).1 (List.mem_cons_of_mem _ hx))).resolve_left (h1 hx)
    · intro hx
      exact (List.mem_cons.1 ((h x).2 (List.mem_cons_of_mem _ hx))).resolve_left (h2 hx)
/-- Two stores with the same at each dot are one. -/
theorem at_ext {l m : List Nt} (hl : SrtN l) (hm : SrtN m) (h : ∀ d, atS l d = atS m d) : l = m := srt_ext2 hl hm fun x => by rw [at_iff hl, at_iff hm, h]
/-! ### One more node -/
def posS (l : List Nt) (d : Dt) : Nat := pos (l.map (·.1)) d
theorem posS_le (l : List Nt) (d : Dt) : posS l d ≤ l.length := by have := pos_le (l.map (·.1)) d; rw [List.length_map] at this; exact this
theorem posS_lt {l : List Nt} {d : Dt} {i : Nat} (hi : i < l.length) (h : i < posS l d) : less l[i].1 d = true := by
  have := pos_lt (s := l.map fun n : Nt => n.1) (d := d) (i := i) (by simpa using hi) h
  simpa using this
theorem posS_ge {l : List Nt} (hs : SrtN l) {d : Dt} {i : Nat} (hi : i < l.length) (h : posS l d ≤ i) : less l[i].1 d = false := by
  have h0 : posS l d < (l.map (·.1)).length := by rw [List.length_map]; omega
  have h1 : less (l[posS l d]'(by rw [List.length_map] at h0; exact h0)).1 d = false := by
    have h1 : less ((l.map fun n : Nt => n.1)[posS l d]'h0) d = false := pos_at (s := l.map fun n : Nt => n.1) (d := d) h0
    rw [List.getElem_map] at h1
    exact h1
  rcases Nat.lt_or_eq_of_le h with h2 | h2
  · have h3 := List.pairwise_iff_getElem.1 hs (posS l d) i (by omega) hi h2
    rw [← Bool.not_eq_true]
    intro h4
    have := less_trans h3 h4
    rw [h1] at this
    cases this
  · subst h2
    exact h1
/-- A store with another node at a dot, whatever it is. -/
def setS (l : List Nt) (n : Nt) : List Nt := l.take (posS l n.1) ++ n :: (l.drop (posS l n.1)).filter fun x => !decide (x.1 = n.1)
theorem mem_setS {l : List Nt} (hs : SrtN l) {n x : Nt} : x ∈ setS l n ↔ x = n ∨ (x ∈ l ∧ x.1 ≠ n.1) := by
  unfold setS
  rw [List.mem_append, List.mem_cons, List.mem_filter]
  constructor
  · rintro (h | h | ⟨h1, h2⟩)
    · obtain ⟨i, hi, rfl⟩ := List.mem_iff_getElem.1 h
      rw [List.length_take] at hi
      rw [List.getElem_take]
      exact .inr ⟨List.getElem_mem _, less_ne (posS_lt (by omega) (by omega))⟩
    · exact .inl h
    · exact .inr ⟨List.mem_of_mem_drop h1, by simpa using h2⟩
  · rintro (h | ⟨h1, h2⟩)
    · exact .inr (.inl h)
    · rw [← List.take_append_drop (posS l n.1) l] at h1
      rcases List.mem_append.1 h1 with h | h
      · exact .inl h
      · exact .inr (.inr ⟨h, by simpa using h2⟩)
theorem srt_setS {l : List Nt} (hs : SrtN l) (n : Nt) : SrtN (setS l n) := by
  unfold setS SrtN
  rw [List.pairwise_append]
  refine ⟨List.Pairwise.sublist (List.take_sublist _ _) hs, ?_, ?_⟩
  · rw [List.pairwise_cons]
    refine ⟨fun x hx => ?_, List.Pairwise.sublist List.filter_sublist (List.Pairwise.sublist (List.drop_sublist _ _) hs)⟩
    obtain ⟨h1, h2⟩ := List.mem_filter.1 hx
    obtain ⟨i, hi, rfl⟩ := List.mem_iff_getElem.1 h1
    rw [List.length_drop] at hi
    rw [List.getElem_drop] at h2 ⊢
    have h3 := posS_ge hs (d := n.1) (i := posS l n.1 + i) (by omega) (by omega)
    rcases h4 : less n.1 l[posS l n.1 + i].1 with _ | _
    · exact absurd (less_tri h3 h4) (by simpa using h2)
    · rfl
  · intro a ha b hb
    obtain ⟨i, hi, rfl⟩ := List.mem_iff_getElem.1 ha
    rw [List.length_take] at hi
    rw [List.getElem_take]
    have h1 : less l[i].1 n.1 = true := posS_lt (by omega) (by omega)
    rcases List.mem_cons.1 hb with rfl | hb
    · exact h1
    · obtain ⟨j, hj, rfl⟩ := List.mem_iff_getElem.1 (List.mem_filter.1 hb).1
      rw [List.length_drop] at hj
      rw [List.getElem_drop]
      exact List.pairwise_iff_getElem.1 hs i (posS l n.1 + j) (by omega) (by omega) (by omega)
theorem at_setS {l : List Nt} (hs : SrtN l) (n : Nt) (d : Dt) : atS (setS l n) d = if d = n.1 then some n else atS l d := by
  have h2 := srt_setS hs n
  split
  · rename_i h
    subst h
    exact at_mem h2 ((mem_setS hs).2 (.inl rfl))
  · rename_i h
    rcases hx : atS l d with _ | x
    · rw [at_none]
      intro y hy e
      rcases (mem_setS hs).1 hy with rfl | ⟨hy, -⟩
      · exact h e.symm
      · exact at_none.1 hx y hy e
    · obtain ⟨h3, rfl⟩ := at_some hx
      exact at_mem h2 ((mem_setS hs).2 (.inr ⟨h3, h⟩))
/-- One more node, or an error. -/
def putN (l : List Nt) (n : Nt) : List Nt × Int :=
  match atS l n.1 with
  | none => (setS l n, 0)
  | some r => if (mergeN r n).2 = 0 then (setS l (mergeN r n).1, 0) else ([], (mergeN r n).2)
theorem merge_dot {a b : Nt} (h : (mergeN a b).2 = 0) : (mergeN a b).1.1 = a.1 ∧ a.1 = b.1 := by
  obtain ⟨h1, h2, h3, h4⟩ := merge_yes h
  obtain ⟨k1, -⟩ := agree_iff.1 h3
  rw [h4]
  split
  · exact ⟨k1.symm, k1⟩
  · exact ⟨rfl, k1⟩
/-- What Put lays at the node's dot. -/
def upN (l : List Nt) (n : Nt) : Nt := match atS l n.1 with | none => n | some r => (mergeN r n).1
theorem put_yes {l : List Nt} {n : Nt} (h : (putN l n).2 = 0) : (putN l n).1 = setS l (upN l n) ∧ (upN l n).1 = n.1 := by
  unfold putN upN at *
  rcases hr : atS l n.1 with _ | r
  · exact ⟨rfl, rfl⟩
  · simp only [hr] at h ⊢
    by_cases hm : (mergeN r n).2 = 0
    · simp only [hm, if_true]
      exact ⟨by first | trivial | rfl, (merge_dot hm).1.trans (merge_dot hm).2⟩
    · simp only [hm, if_false] at h
theorem put_no {l : List Nt} {n : Nt} (h : (putN l n).2 ≠ 0) : (putN l n).1 = [] := by
  unfold putN at *
  rcases hr : atS l n.1 with _ | r
  · simp only [hr] at h; exact absurd rfl h
  · simp only [hr] at h ⊢
    by_cases hm : (mergeN r n).2 = 0
    · simp only [hm, if_true] at h; exact absurd rfl h
    · simp only [hm, if_false]
theorem put_at {l : List Nt} (hs : SrtN l) {n : Nt} (h : (putN l n).2 = 0) (d : Dt) : atS (putN l n).1 d = if d = n.1 then some (upN l n) else atS l d := by
  obtain ⟨h1, h2⟩ := put_yes h
  rw [h1, at_setS hs, h2]
theorem put_valid {l : List Nt} (hl : validS l = true) {n : Nt} (hn : validN n = true) (h : (putN l n).2 = 0) : validS (putN l n).1 = true := by
  obtain ⟨h1, h2⟩ := put_yes h
  obtain ⟨h3, h4⟩ := validS_iff.1 hl
  rw [h1, validS_iff]
  refine ⟨fun x hx => ?_, srt_setS h4 _⟩
  rcases (mem_setS h4).1 hx with rfl | ⟨hx, -⟩
  · unfold upN putN at *
    rcases hr : atS l n.1 with _ | r
    · exact hn
    · simp only [hr] at h ⊢
      by_cases hm : (mergeN r n).2 = 0
      · exact (merge_dead hm).2
      · simp only [hm, if_false] at h
  · exact h3 x hx
end Go.Proofs.YtkcbekebleodaaaGreat.Qs
end

/-
  Stores, plainly: the store of some nodes; the order of the nodes does not matter.
-/
section
namespace Go.Proofs.YtkcbekebleodaaaGreat.Qs
set_option linter.unusedVariables false
open D Nd

/-! ### What Put lays, written out -/
theorem setS_new {l : List Nt} {n : Nt} (h : atS l n.1 = none) : setS l n = l.take (posS l n.1) ++ n :: l.drop (posS l n.1) := by
  unfold setS
  rw [List.filter_eq_self.2 fun x hx => by simpa using at_none.1 h x (List.mem_of_mem_drop hx)]
theorem setS_old {l : List Nt} (hs : SrtN l) {n r : Nt} (h : atS l n.1 = some r) : ∃ hp : posS l n.1 < l.length, l[posS l n.1] = r ∧ setS l n = l.take (posS l n.1) ++ n :: l.drop (posS l n.1 + 1) := by
  obtain ⟨h1, h2⟩ := at_some h
  obtain ⟨i, hi, rfl⟩ := List.mem_iff_getElem.1 h1
  have e : posS l n.1 = i := by
    rcases Nat.lt_trichotomy (posS l n.1) i with k | k | k
    · have h3 := List.pairwise_iff_getElem.1 hs (posS l n.1) i (by omega) hi k
      have h4 := posS_ge hs (d := n.1) (i := posS l n.1) (by omega) (Nat.le_refl _)
      rw [h2] at h3
      rw [h3] at h4
      cases h4
    · exact k
    · have h3 := posS_lt hi k
      rw [h2, less_irr] at h3
      cases h3
  refine ⟨by omega, by simp only [e], ?_⟩
  unfold setS
  rw [e, List.drop_eq_getElem_cons hi, List.filter_cons, if_neg (by simp [h2])]
  rw [List.filter_eq_self.2 fun x hx => ?_]
  obtain ⟨j, hj, rfl⟩ := List.mem_iff_getElem.1 hx
  rw [List.length_drop] at hj
  rw [List.getElem_drop]
  have h3 := List.pairwise_iff_getElem.1 hs i (i + 1 + j) hi (by omega) (by omega)
  rw [h2] at h3
  simpa using (less_ne h3).symm

/-! ### The store of some nodes -/
def agAll (l : List Nt) : Prop := ∀ a ∈ l, ∀ b ∈ l, a.1 = b.1 → agreeN a b = true
def agB : List Nt → Bool
  | [] => true
  | a :: t => (t.all fun b => !decide (a.1 = b.1) || agreeN a b) && agB t
theorem agB_iff : ∀ {l : List Nt}, agB l = true ↔ agAll l
  | [] => by simp [agB, agAll]
  | a :: t => by
    rw [agB, Bool.and_eq_true, agB_iff (l := t), List.all_eq_true]
    constructor
    · rintro ⟨h1, h2⟩ x hx y hy e
      rcases List.mem_cons.1 hx with rfl | hx <;> rcases List.mem_cons.1 hy with rfl | hy
      · exact agree_self _
      · have := h1 y hy
        simpa [e] using this
      · have h5 : x ∈ t := by assumption
        have := h1 x h5
        rw [agree_comm]
        simpa [e] using this
      · exact h2 x hx y hy e
    · intro h
      refine ⟨fun b hb => ?_, fun x hx y hy e => h x (by simp [hx]) y (by simp [hy]) e⟩
      by_cases e : a.1 = b.1
      · simp [e, h a (by simp) b (by simp [hb]) e]
      · simp [e]
def deadAt (l : List Nt) (d : Dt) : Bool := l.any fun n => decide (n.1 = d) && deadN n
theorem deadAt_iff {l : List Nt} {d : Dt} : deadAt l d = true ↔ ∃ n ∈ l, n.1 = d ∧ deadN n = true := by unfold deadAt; simp
/-- What all nodes with a dot are merged to. -/
def mg (l : List Nt) (d : Dt) : Option Nt := (atS l d).map fun a => if deadAt l d = true then killN a else a
def foldN (l : List Nt) (o : List Nt) : List Nt := l.foldl (fun o n => (putN o n).1) o
def ofN (l : List Nt) : List Nt × Int := if l.all validN = true then (if agB l = true then (foldN l [], 0) else ([], 15)) else ([], 2)
theorem kill_eq {a b : Nt} (h : agreeN a b = true) : killN a = killN b := by
  obtain ⟨h1, h2, h3, -⟩ := agree_iff.1 h
  exact node_ext h1 h2 h3 rfl
theorem kill_dead {a : Nt} (h : deadN a = true) : killN a = a := node_ext rfl rfl rfl (by unfold deadN at h; exact (of_decide_eq_true h).symm)
theorem agree_kill {a b : Nt} (h : agreeN a b = true) : agreeN (killN a) b = true := by
  obtain ⟨h1, h2, h3, -⟩ := agree_iff.1 h
  exact agree_iff.2 ⟨h1, h2, h3, .inr (.inl rfl)⟩
theorem at_app (l : List Nt) (n : Nt) (d : Dt) : atS (l ++ [n]) d = (atS l d).or (if n.1 = d then some n else none) := by
  unfold atS
  rw [List.find?_append]
  congr 1
  by_cases h : n.1 = d <;> simp [h]
theorem dead_app (l : List Nt) (n : Nt) (d : Dt) : deadAt (l ++ [n]) d = (deadAt l d || (decide (n.1 = d) && deadN n)) := by
  unfold deadAt
  rw [List.any_append]
  simp
theorem step_ok {o pre : List Nt} {n : Nt} (hv : validS o = true) (ha : ∀ d, atS o d = mg pre d) (hn : validN n = true) (hg : agAll (pre ++ [n])) : (putN o n).2 = 0 ∧ validS (putN o n).1 = true ∧ ∀ d, atS (putN o n).1 d = mg (pre ++ [n]) d := by
  have hs := (validS_iff.1 hv).2
  have other : ∀ d, d ≠ n.1 → mg (pre ++ [n]) d = mg pre d := fun d hd => by
    unfold mg
    rw [at_app, dead_app, if_neg (fun e => hd e.symm), decide_eq_false (fun e => hd e.symm), Bool.false_and, Bool.or_false, Option.or_none]
  have main : (putN o n).2 = 0 ∧ some (upN o n) = mg (pre ++ [n]) n.1 := by
    have h0 := ha n.1
    unfold mg at h0
    rcases hp : atS pre n.1 with _ | a
    · rw [hp] at h0
      simp only [Option.map_none] at h0
      unfold putN upN mg
      rw [h0, at_app, hp, dead_app]
      have hd : deadAt pre n.1 = false := by
        rw [← Bool.not_eq_true, deadAt_iff]
        rintro ⟨x, hx, e, -⟩
        exact at_none.1 hp x hx e
      rw [hd]
      refine ⟨rfl, ?_⟩
      simp only [if_true, Option.none_or, Option.map_some, decide_true, Bool.true_and, Bool.false_or]
      split
      · rename_i h; rw [kill_dead h]
      · rfl
    · rw [hp] at h0
      simp only [Option.map_some] at h0
      obtain ⟨p1, p2⟩ := at_some hp
      have ag : agreeN a n = true := hg a (by simp [p1]) n (by simp) p2
      obtain ⟨r, hr⟩ : ∃ r, r = if deadAt pre n.1 = true then killN a else a := ⟨_, rfl⟩
      rw [← hr] at h0
      have agr : agreeN r n = true := by rw [hr]; split; exact agree_kill ag; exact ag
      have vr : validN r = true := (validS_iff.1 hv).1 _ (at_some h0).1
      have hm : mergeN r n = (if n.2.2.2 = 0 then n else r, 0) := by
        unfold mergeN
        rw [vr, hn, agr, Bool.and_self, if_pos rfl, if_pos rfl]
      unfold putN upN mg
      rw [h0, at_app, hp, dead_app]
      simp only [hm, if_true, Option.some_or, Option.map_some, decide_true, Bool.true_and, true_and]
      by_cases hz : n.2.2.2 = 0
      · have hdn : deadN n = true := by unfold deadN; simpa using hz
        rw [if_pos hz, hdn, Bool.or_true, if_pos rfl, kill_eq ag, kill_dead hdn]
      · have hdn : deadN n = false := by unfold deadN; simpa using hz
        rw [if_neg hz, hdn, Bool.or_false, hr]
  refine ⟨main.1, put_valid hv hn main.1, fun d => ?_⟩
  rw [put_at hs main.1]
  split
  · rename_i hd
    rw [hd]
    exact main.2
  · rename_i hd
    rw [ha, other d hd]
theorem fold_ok : ∀ (t pre o : List Nt), validS o = true → (∀ d, atS o d = mg pre d) → (∀ x ∈ t, validN x = true) → agAll (pre ++ t) → validS (foldN t o) = true ∧ ∀ d, atS (foldN t o) d = mg (pre ++ t) d
  | [], pre, o, h1, h2, _, _ => by rw [List.append_nil]; exact ⟨h1, h2⟩
  | n :: t, pre, o, h1, h2, h3, h4 => by
    have hg : agAll (pre ++ [n]) := fun a ha b hb e => h4 a (by simp at ha ⊢; rcases ha with h | h <;> simp [h]) b (by simp at hb ⊢; rcases hb with h | h <;> simp [h]) e
    obtain ⟨-, k2, k3⟩ := step_ok h1 h2 (h3 n (by simp)) hg
    have := fold_ok t (pre ++ [n]) (putN o n).1 k2 k3 (fun x hx => h3 x (by simp [hx])) (by rw [List.append_assoc]; exact h4)
    rw [List.append_assoc] at this
    exact this
theorem of_ok {l : List Nt} (h1 : ∀ x ∈ l, validN x = true) (h2 : agAll l) : ofN l = (foldN l [], 0) ∧ validS (foldN l []) = true ∧ ∀ d, atS (foldN l []) d = mg l d := by
  have := fold_ok l [] [] rfl (fun d => rfl) h1 (by rw [List.nil_append]; exact h2)
  rw [List.nil_append] at this
  refine ⟨?_, this⟩
  unfold ofN
  rw [if_pos (List.all_eq_true.2 h1), if_pos (agB_iff.2 h2)]
theorem mg_same {l m : List Nt} (h : ∀ x, x ∈ l ↔ x ∈ m) (hg : agAll l) (d : Dt) : mg l d = mg m d := by
  have hd : deadAt l d = deadAt m d := by
    rw [Bool.eq_iff_iff, deadAt_iff, deadAt_iff]
    exact ⟨fun ⟨n, h1, h2⟩ => ⟨n, (h n).1 h1, h2⟩, fun ⟨n, h1, h2⟩ => ⟨n, (h n).2 h1, h2⟩⟩
  unfold mg
  rw [hd]
  rcases ha : atS l d with _ | a
  · rcases hb : atS m d with _ | b
    · rfl
    · obtain ⟨b1, b2⟩ := at_some hb
      exact absurd b2 (at_none.1 ha b ((h b).2 b1))
  · obtain ⟨a1, a2⟩ := at_some ha
    rcases hb : atS m d with _ | b
    · exact absurd a2 (at_none.1 hb a ((h a).1 a1))
    · obtain ⟨b1, b2⟩ := at_some hb
      have ag := hg a a1 b ((h b).2 b1) (a2.trans b2.symm)
      simp only [Option.map_some, Option.some.injEq]
      split
      · exact kill_eq ag
      · rename_i hn
        have h0 : ∀ x ∈ m, x.1 = d → x.2.2.2 ≠ 0 := fun x hx e hz => hn (deadAt_iff.2 ⟨x, hx, e, by unfold deadN; simpa using hz⟩)
        obtain ⟨e1, e2, e3, e4⟩ := agree_iff.1 ag
        exact node_ext e1 e2 e3 (e4.elim id fun h' => h'.elim (fun h' => absurd h' (h0 a ((h a).1 a1) a2)) fun h' => absurd h' (h0 b b1 b2))
/-- Neither the order of the nodes nor how often each is there matters. -/
theorem of_same {l m : List Nt} (h : ∀ x, x ∈ l ↔ x ∈ m) : ofN l = ofN m := by
  have hv : l.all validN = m.all validN := by
    rw [Bool.eq_iff_iff, List.all_eq_true, List.all_eq_true]
    exact ⟨fun k x hx => k x ((h x).2 hx), fun k x hx => k x ((h x).1 hx)⟩
  have hg : agB l = agB m := by
    rw [Bool.eq_iff_iff, agB_iff, agB_iff]
    exact ⟨fun k a ha b hb => k a ((h a).2 ha) b ((h b).2 hb), fun k a ha b hb => k a ((h a).1 ha) b ((h b).1 hb)⟩
  by_cases h1 : l.all validN = true
  · by_cases h2 : agB l = true
    · obtain ⟨a1, a2, a3⟩ := of_ok (List.all_eq_true.1 h1) (agB_iff.1 h2)
      obtain ⟨b1, b2, b3⟩ := of_ok (l := m) (List.all_eq_true.1 (hv ▸ h1)) (agB_iff.1 (hg ▸ h2))
      rw [a1, b1]
      refine Prod.ext (at_ext (validS_iff.1 a2).2 (validS_iff.1 b2).2 fun d => ?_) rfl
      rw [a3, b3, mg_same h (agB_iff.1 h2)]
    · unfold ofN
      rw [← hv, ← hg, if_pos h1, if_pos h1, if_neg h2, if_neg h2]
  · unfold ofN
    rw [← hv, if_neg h1, if_neg h1]
theorem of_valid {l : List Nt} (h : (ofN l).2 = 0) : (∀ x ∈ l, validN x = true) ∧ agAll l ∧ validS (ofN l).1 = true := by
  unfold ofN at h ⊢
  split at h
  · rename_i h1
    split at h
    · rename_i h2
      rw [if_pos h1, if_pos h2]
      exact ⟨List.all_eq_true.1 h1, agB_iff.1 h2, (of_ok (List.all_eq_true.1 h1) (agB_iff.1 h2)).2.1⟩
    · cases h
  · cases h
theorem srt_one {l : List Nt} (hs : SrtN l) {a b : Nt} (ha : a ∈ l) (hb : b ∈ l) (e : a.1 = b.1) : a = b := by
  have h1 := at_mem hs ha
  have h2 := at_mem hs hb
  rw [e, h2] at h1
  exact (Option.some.inj h1).symm
/-- The store of a store is the store. -/
theorem of_self {l : List Nt} (h : validS l = true) : ofN l = (l, 0) := by
  obtain ⟨h1, h2⟩ := validS_iff.1 h
  have hg : agAll l := fun a ha b hb e => by rw [srt_one h2 ha hb e]; exact agree_self b
  obtain ⟨a1, a2, a3⟩ := of_ok h1 hg
  rw [a1]
  refine Prod.ext (at_ext (validS_iff.1 a2).2 h2 fun d => ?_) rfl
  rw [a3]
  unfold mg
  rcases ha : atS l d with _ | a
  · rfl
  · obtain ⟨k1, k2⟩ := at_some ha
    simp only [Option.map_some, Option.some.injEq]
    split
    · rename_i hd
      obtain ⟨x, hx, e, hz⟩ := deadAt_iff.1 hd
      rw [srt_one h2 k1 hx (k2.trans e.symm)]
      exact kill_dead hz
    · rfl
end Go.Proofs.YtkcbekebleodaaaGreat.Qs
end

/-
  Stores, plainly: nodes that are killed, the dots and contexts of a store, the greatest time, the parents that are lacking.
-/
section
namespace Go.Proofs.YtkcbekebleodaaaGreat.Qs
set_option linter.unusedVariables false
open D Nd

/-! ### Kill -/
def killAt (dots : List Dt) (n : Nt) : Nt := if n.1 ∈ dots then killN n else n
def killS (l : List Nt) (dots : List Dt) : List Nt × Int := if dots.all (fun d => (atS l d).isSome) = true then (l.map (killAt dots), 0) else ([], 9)
theorem killAt_dot (dots : List Dt) (n : Nt) : (killAt dots n).1 = n.1 := by unfold killAt; split <;> rfl
theorem valid_killN {n : Nt} (h : validN n = true) : validN (killN n) = true := by
  rw [valid_vn] at *
  obtain ⟨h1, h2, h3, h4, h5, h6⟩ := h
  exact ⟨h1, h2, h3, h4, h5, .inl rfl⟩
theorem kill_valid {l : List Nt} (h : validS l = true) (dots : List Dt) : validS (l.map (killAt dots)) = true := by
  obtain ⟨h1, h2⟩ := validS_iff.1 h
  rw [validS_iff]
  constructor
  · intro x hx
    obtain ⟨n, hn, rfl⟩ := List.mem_map.1 hx
    unfold killAt
    split
    · exact valid_killN (h1 n hn)
    · exact h1 n hn
  · unfold SrtN
    rw [List.pairwise_map]
    exact h2.imp fun {a b} k => by rw [killAt_dot, killAt_dot]; exact k
theorem kill_code {l : List Nt} {dots : List Dt} (d : Dt) (hd : d ∈ dots) (h : atS l d = none) : killS l dots = ([], 9) := by
  unfold killS
  rw [if_neg]
  intro k
  have := List.all_eq_true.1 k d hd
  rw [h] at this
  cases this
theorem kill_all {l : List Nt} {dots : List Dt} (h : ∀ d ∈ dots, atS l d ≠ none) : killS l dots = (l.map (killAt dots), 0) := by
  unfold killS
  rw [if_pos (List.all_eq_true.2 fun d hd => by
    rcases ha : atS l d with _ | n
    · exact absurd ha (h d hd)
    · rfl)]

/-! ### Dots, contexts -/

/-! ### The greatest time -/
def timeS (l : List Nt) : Int := l.foldl (fun m n => if m < n.2.2.1 then n.2.2.1 else m) 0

/-! ### The parents that are lacking -/
end Go.Proofs.YtkcbekebleodaaaGreat.Qs
end

/-
  Stores, plainly: what the laws ask; loops over lists.
-/
section
namespace Go.Proofs.YtkcbekebleodaaaGreat.Qs
set_option linter.unusedVariables false
open D Nd

/-! ### Loops -/
theorem foldl_take {α β : Type} (g : β → α → β) (o : β) (l : List α) (i : Nat) (hi : i < l.length) : (l.take (i + 1)).foldl g o = g ((l.take i).foldl g o) l[i] := by
  have e : l.take (i + 1) = l.take i ++ [l[i]] := by rw [List.take_add_one, List.getElem?_eq_getElem hi]; rfl
  rw [e, List.foldl_append]
  rfl
theorem posS_go {l : List Nt} {d : Dt} {i : Nat} (hi : i < l.length) (h : i ≤ posS l d) (hl : less l[i].1 d = true) : i + 1 ≤ posS l d :=
  pos_go (s := l.map fun n : Nt => n.1) (d := d) (i := i) (by simpa using hi) h (by simpa using hl)
theorem posS_stop {l : List Nt} {d : Dt} {i : Nat} (hi : i < l.length) (h : i ≤ posS l d) (hl : less l[i].1 d = false) : i = posS l d :=
  pos_stop (s := l.map fun n : Nt => n.1) (d := d) (i := i) (by simpa using hi) h (by simpa using hl)
theorem posS_end {l : List Nt} {d : Dt} {i : Nat} (hi : i = l.length) (h : i ≤ posS l d) : i = posS l d := by have := posS_le l d; omega
/-- The first index with a dot, by a loop. -/
def idxS (l : List Nt) (d : Dt) : Int := if (atS l d).isSome then ((l.takeWhile fun n => !decide (n.1 = d)).length : Int) else -1
theorem idx_hit {l : List Nt} {d : Dt} {i : Nat} (hi : i < l.length) (h : ∀ j (hj : j < l.length), j < i → l[j].1 ≠ d) (e : l[i].1 = d) : idxS l d = (i : Int) ∧ atS l d = some l[i] := by
  have hw : (l.takeWhile fun n => !decide (n.1 = d)).length = i ∧ atS l d = some l[i] := by
    induction l generalizing i with
    | nil => simp at hi
    | cons a t ih =>
      cases i with
      | zero =>
        simp only [List.getElem_cons_zero] at e ⊢
        refine ⟨by rw [List.takeWhile_cons, if_neg (by simp [e])]; rfl, ?_⟩
        unfold atS
        rw [List.find?_cons, decide_eq_true e]
      | succ i =>
        have h0 := h 0 (by simp) (by omega)
        simp only [List.getElem_cons_zero] at h0
        simp only [List.getElem_cons_succ] at e ⊢
        obtain ⟨k1, k2⟩ := ih (i := i) (by simpa using hi) (fun j hj hji => by have := h (j + 1) (by simpa using hj) (by omega); simpa using this) e
        refine ⟨by rw [List.takeWhile_cons, if_pos (by simp [h0]), List.length_cons, k1], ?_⟩
        unfold atS at k2 ⊢
        rw [List.find?_cons, decide_eq_false h0]
        exact k2
  unfold idxS
  rw [hw.2]
  exact ⟨by rw [hw.1]; rfl, rfl⟩
theorem idx_none {l : List Nt} {d : Dt} (h : ∀ j (hj : j < l.length), l[j].1 ≠ d) : idxS l d = -1 ∧ atS l d = none := by
  have : atS l d = none := at_none.2 fun n hn => by
    obtain ⟨j, hj, rfl⟩ := List.mem_iff_getElem.1 hn
    exact h j hj
  unfold idxS
  rw [this]
  exact ⟨rfl, rfl⟩

/-! ### What the laws ask -/
end Go.Proofs.YtkcbekebleodaaaGreat.Qs
end

/-
  Layer 14, plainly: states that agree, their join, the join of some states, states within each other.
-/
section
namespace Go.Proofs.YtkcbekebleodaaaGreat.Jn
set_option linter.unusedVariables false
open D Nd Qs

/-- Two states agree. -/
def agS (a b : List Nt) : Bool := a.all fun x => match atS b x.1 with | none => true | some y => agreeN x y
/-- The join of two states that agree. -/
def joinL (a b : List Nt) : List Nt := foldN b a

theorem at_app2 (a b : List Nt) (d : Dt) : atS (a ++ b) d = (atS a d).or (atS b d) := by
  unfold atS
  exact List.find?_append
theorem dead_app2 (a b : List Nt) (d : Dt) : deadAt (a ++ b) d = (deadAt a d || deadAt b d) := by
  unfold deadAt
  exact List.any_append
theorem dead_store {a : List Nt} (h : validS a = true) (d : Dt) : deadAt a d = match atS a d with | none => false | some x => deadN x := by
  have hs := (validS_iff.1 h).2
  rcases ha : atS a d with _ | x
  · have h1 := at_none.1 ha
    simp only
    cases hd : deadAt a d
    · rfl
    · obtain ⟨n, hn, e, -⟩ := deadAt_iff.1 hd
      exact absurd e (h1 n hn)
  · obtain ⟨hx, e⟩ := at_some ha
    simp only
    cases hd : deadN x
    · cases hd2 : deadAt a d
      · rfl
      · obtain ⟨n, hn, e2, h3⟩ := deadAt_iff.1 hd2
        have := srt_one hs hn hx (e2.trans e.symm)
        rw [this, hd] at h3
        cases h3
    · exact deadAt_iff.2 ⟨x, hx, e, hd⟩
theorem self_ag {a : List Nt} (h : validS a = true) : agAll a := (of_valid (l := a) (by rw [of_self h])).2.1
theorem self_fold {a : List Nt} (h : validS a = true) : foldN a [] = a := by
  have h1 := of_valid (l := a) (by rw [of_self h])
  exact congrArg Prod.fst ((of_ok h1.1 h1.2.1).1.symm.trans (of_self h))
theorem valid_of {a : List Nt} (h : validS a = true) : ∀ x ∈ a, validN x = true := (validS_iff.1 h).1
theorem ag_iff {a b : List Nt} (ha : validS a = true) (hb : validS b = true) : agS a b = true ↔ agAll (a ++ b) := by
  unfold agS
  rw [List.all_eq_true]
  constructor
  · intro h x hx y hy e
    have key : ∀ x ∈ a, ∀ y ∈ b, x.1 = y.1 → agreeN x y = true := by
      intro x hx y hy e
      have h1 := h x hx
      rw [e, at_mem (validS_iff.1 hb).2 hy] at h1
      exact h1
    rcases List.mem_append.1 hx with hx | hx <;> rcases List.mem_append.1 hy with hy | hy
    · exact self_ag ha x hx y hy e
    · exact key x hx y hy e
    · rw [agree_comm]; exact key y hy x hx e.symm
    · exact self_ag hb x hx y hy e
  · intro h x hx
    rcases hat : atS b x.1 with _ | y
    · rfl
    · obtain ⟨hy, e⟩ := at_some hat
      exact h x (List.mem_append_left _ hx) y (List.mem_append_right _ hy) e.symm
theorem ag_comm {a b : List Nt} (ha : validS a = true) (hb : validS b = true) : agS a b = agS b a := by
  have h : agAll (a ++ b) ↔ agAll (b ++ a) := by
    constructor <;> intro h x hx y hy e <;> exact h x (by simpa [or_comm] using hx) y (by simpa [or_comm] using hy) e
  rw [Bool.eq_iff_iff, ag_iff ha hb, ag_iff hb ha, h]
theorem all_app {a b : List Nt} (ha : validS a = true) (hb : validS b = true) : ∀ x ∈ a ++ b, validN x = true := by
  intro x hx
  rcases List.mem_append.1 hx with hx | hx
  · exact valid_of ha x hx
  · exact valid_of hb x hx
theorem join_fold {a b : List Nt} (ha : validS a = true) : foldN (a ++ b) [] = joinL a b := by
  unfold joinL
  conv => rhs; rw [← self_fold ha]
  unfold foldN
  rw [List.foldl_append]
theorem join_of {a b : List Nt} (ha : validS a = true) (hb : validS b = true) (h : agS a b = true) : ofN (a ++ b) = (joinL a b, 0) := by
  rw [(of_ok (all_app ha hb) ((ag_iff ha hb).1 h)).1, join_fold ha]
theorem join_valid {a b : List Nt} (ha : validS a = true) (hb : validS b = true) (h : agS a b = true) : validS (joinL a b) = true := by
  have := (of_ok (all_app ha hb) ((ag_iff ha hb).1 h)).2.1
  rwa [join_fold ha] at this
/-- What stands at a dot of a join. -/
theorem join_at {a b : List Nt} (ha : validS a = true) (hb : validS b = true) (h : agS a b = true) (d : Dt) :
    atS (joinL a b) d = match atS a d, atS b d with | none, y => y | some x, none => some x | some x, some y => some (if y.2.2.2 = 0 then y else x) := by
  have h1 := (of_ok (all_app ha hb) ((ag_iff ha hb).1 h)).2.2 d
  rw [join_fold ha] at h1
  rw [h1]
  unfold mg
  rw [at_app2, dead_app2, dead_store ha, dead_store hb]
  rcases hx : atS a d with _ | x <;> rcases hy : atS b d with _ | y
  · rfl
  · simp only [Option.none_or, Option.map_some, Bool.false_or]
    cases hd : deadN y
    · simp
    · simp [kill_dead hd]
  · simp only [Option.some_or, Option.map_some, Bool.or_false]
    cases hd : deadN x
    · simp
    · simp [kill_dead hd]
  · simp only [Option.some_or, Option.map_some]
    obtain ⟨hxm, ex⟩ := at_some hx
    obtain ⟨hym, ey⟩ := at_some hy
    have hg : agreeN x y = true := (ag_iff ha hb).1 h x (List.mem_append_left _ hxm) y (List.mem_append_right _ hym) (ex.trans ey.symm)
    congr 1
    show (if (deadN x || deadN y) = true then killN x else x) = if y.2.2.2 = 0 then y else x
    by_cases hy0 : y.2.2.2 = 0
    · have hd : deadN y = true := by simpa [deadN] using hy0
      rw [if_pos hy0, if_pos (by rw [hd, Bool.or_true]), kill_eq hg, kill_dead hd]
    · have hd : deadN y = false := by simpa [deadN] using hy0
      rw [if_neg hy0]
      by_cases hx0 : deadN x = true
      · rw [if_pos (by rw [hx0]; rfl), kill_dead hx0]
      · rw [if_neg (by rw [hd, Bool.or_false]; exact hx0)]
theorem join_comm {a b : List Nt} (ha : validS a = true) (hb : validS b = true) (h : agS a b = true) : joinL b a = joinL a b := by
  have h2 : agS b a = true := by rw [ag_comm hb ha]; exact h
  have h3 : ofN (b ++ a) = ofN (a ++ b) := of_same fun x => by simp [or_comm]
  rw [join_of ha hb h, join_of hb ha h2] at h3
  exact congrArg Prod.fst h3
theorem nil_valid : validS [] = true := rfl
end Go.Proofs.YtkcbekebleodaaaGreat.Jn
end

/-
  Layer 14, plainly: the reference's join (one node after the other), and two stores zipped from the front.
-/
section
namespace Go.Proofs.YtkcbekebleodaaaGreat.Jn
set_option linter.unusedVariables false
open D Nd Qs

/-! ### The reference's join -/
/-- What two nodes are merged to, whatever they are. -/
def mrgR (a b : Nt) : Nt := if agreeN a b = true then (if b.2.2.2 = 0 then b else a) else zeroN
/-- The first place of a dot, or the list's length. -/
def hitS (l : List Nt) (d : Dt) : Nat := (l.takeWhile fun n => !decide (n.1 = d)).length
/-- One more node. -/
def stepR (o : List Nt) (n : Nt) : List Nt := match o[hitS o n.1]? with | some r => o.set (hitS o n.1) (mrgR r n) | none => o.take (posS o n.1) ++ n :: o.drop (posS o n.1)
def joinR (a b : List Nt) : List Nt := b.foldl stepR a
theorem hit_cons (x : Nt) (l : List Nt) (d : Dt) : hitS (x :: l) d = if x.1 = d then 0 else hitS l d + 1 := by
  unfold hitS
  rw [List.takeWhile_cons]
  by_cases h : x.1 = d
  · simp [h]
  · simp [h]
theorem hit_at : ∀ (l : List Nt) (d : Dt), l[hitS l d]? = atS l d
  | [], d => rfl
  | x :: l, d => by
    rw [hit_cons]
    unfold atS
    rw [List.find?_cons]
    by_cases h : x.1 = d
    · simp [h]
    · simp only [h, if_false, List.getElem?_cons_succ, decide_false]
      exact hit_at l d
theorem hit_eq {l : List Nt} {d : Dt} {i : Nat} (hi : i < l.length) (h : ∀ j (hj : j < l.length), j < i → l[j].1 ≠ d) (e : l[i].1 = d) : hitS l d = i := by
  induction l generalizing i with
  | nil => exact absurd hi (by simp)
  | cons x l ih =>
    rw [hit_cons]
    rcases i with _ | i
    · rw [if_pos (by simpa using e)]
    · have h0 := h 0 (by simp) (by omega)
      rw [if_neg (by simpa using h0)]
      rw [ih (i := i) (by simpa using hi) (fun j hj hji => by have := h (j + 1) (by simpa using hj) (by omega); simpa using this) (by simpa using e)]
theorem hit_pos {l : List Nt} (hs : SrtN l) {d : Dt} {r : Nt} (h : atS l d = some r) : hitS l d = posS l d := by
  obtain ⟨hp, e, -⟩ := setS_old hs (n := (d, (0, 0), 0, 0)) h
  obtain ⟨-, hd⟩ := at_some h
  refine hit_eq hp (fun j hj hji => ?_) (by rw [show l[posS l d] = r from e]; exact hd)
  exact less_ne (posS_lt hj hji)
/-- Into a store, a node that agrees. -/
theorem step_put {o : List Nt} (ho : validS o = true) {n : Nt} (hn : validN n = true) (h : ∀ r, atS o n.1 = some r → agreeN r n = true) : stepR o n = (putN o n).1 := by
  have hs := (validS_iff.1 ho).2
  unfold stepR
  rw [hit_at]
  rcases hr : atS o n.1 with _ | r
  · unfold putN
    rw [hr]
    exact (setS_new hr).symm
  · have hg := h r hr
    have hrv := (validS_iff.1 ho).1 r (at_some hr).1
    have hm : mergeN r n = (mrgR r n, 0) := by
      unfold mergeN mrgR
      rw [if_pos (by rw [hrv, hn]; rfl), if_pos hg, if_pos hg]
    unfold putN
    simp only [hr, hm, if_true]
    have hd : (mrgR r n).1 = n.1 := by
      have := (merge_dot (a := r) (b := n) (by rw [hm])).1.trans (merge_dot (a := r) (b := n) (by rw [hm])).2
      rwa [hm] at this
    obtain ⟨hp, e1, e2⟩ := setS_old hs (n := mrgR r n) (r := r) (by rw [hd]; exact hr)
    rw [e2, hit_pos hs hr, hd, List.set_eq_take_append_cons_drop, if_pos (by rw [← hd]; exact hp)]
/-- The reference's join of two stores that agree. -/
theorem joinR_go : ∀ (t pre o : List Nt), validS o = true → (∀ d, atS o d = mg pre d) → (∀ x ∈ t, validN x = true) → agAll (pre ++ t) → t.foldl stepR o = foldN t o
  | [], pre, o, _, _, _, _ => rfl
  | n :: t, pre, o, hv, ha, hn, hg => by
    have hnv := hn n (by simp)
    have hg1 : agAll (pre ++ [n]) := by
      have hin : ∀ x, x ∈ pre ++ [n] → x ∈ pre ++ n :: t := fun x hx => by
        rcases List.mem_append.1 hx with h | h
        · exact List.mem_append_left _ h
        · exact List.mem_append_right _ (by simp at h; simp [h])
      exact fun x hx y hy e => hg x (hin x hx) y (hin y hy) e
    obtain ⟨h1, h2, h3⟩ := step_ok hv ha hnv hg1
    have hst : stepR o n = (putN o n).1 := by
      refine step_put hv hnv fun r hr => ?_
      have hc := h1
      unfold putN at hc
      rw [hr] at hc
      by_cases hm : (mergeN r n).2 = 0
      · exact (merge_yes hm).2.2.1
      · simp only [hm, if_false] at hc
    show t.foldl stepR (stepR o n) = foldN t ((putN o n).1)
    rw [hst]
    exact joinR_go t (pre ++ [n]) _ h2 h3 (fun x hx => hn x (by simp [hx])) (by simpa using hg)
theorem joinR_eq {a b : List Nt} (ha : validS a = true) (hb : validS b = true) (h : agS a b = true) : joinR a b = joinL a b := by
  refine joinR_go b a a ha (fun d => ?_) (valid_of hb) ((ag_iff ha hb).1 h)
  have h1 := (of_ok (valid_of ha) (self_ag ha)).2.2 d
  rw [self_fold ha] at h1
  exact h1

/-! ### Zipped from the front -/
def zipJ : List Nt → List Nt → List Nt
  | [], b => b
  | a, [] => a
  | x :: a, y :: b => if x.1 = y.1 then (if y.2.2.2 = 0 then y else x) :: zipJ a b else if less x.1 y.1 = true then x :: zipJ a (y :: b) else y :: zipJ (x :: a) b
termination_by a b => a.length + b.length
theorem zip_nil (a : List Nt) : zipJ a [] = a := by
  rcases a with _ | ⟨x, a⟩ <;> rw [zipJ] <;> simp
theorem srt_cons {x : Nt} {a : List Nt} (h : SrtN (x :: a)) : (∀ y ∈ a, less x.1 y.1 = true) ∧ SrtN a := List.pairwise_cons.1 h
theorem not_less {a b : Nt} (hne : a.1 ≠ b.1) (h : ¬less a.1 b.1 = true) : less b.1 a.1 = true := by
  rcases h4 : less b.1 a.1 with _ | _
  · exact absurd (less_tri (by simpa using h) h4) hne
  · rfl
theorem zip_mem : ∀ (a b : List Nt) (d : Dt), (∀ x ∈ a, less d x.1 = true) → (∀ y ∈ b, less d y.1 = true) → ∀ z ∈ zipJ a b, less d z.1 = true
  | [], b, d, _, hb => by rw [zipJ]; exact hb
  | x :: a, [], d, ha, _ => by rw [zip_nil]; exact ha
  | x :: a, y :: b, d, ha, hb => by
    rw [zipJ]
    intro z hz
    split at hz
    · rcases List.mem_cons.1 hz with rfl | hz
      · split
        · exact hb y (by simp)
        · exact ha x (by simp)
      · exact zip_mem a b d (fun q hq => ha q (by simp [hq])) (fun q hq => hb q (by simp [hq])) z hz
    · split at hz
      · rcases List.mem_cons.1 hz with rfl | hz
        · exact ha z (by simp)
        · exact zip_mem a (y :: b) d (fun q hq => ha q (by simp [hq])) hb z hz
      · rcases List.mem_cons.1 hz with rfl | hz
        · exact hb z (by simp)
        · exact zip_mem (x :: a) b d ha (fun q hq => hb q (by simp [hq])) z hz
termination_by a b => a.length + b.length
theorem zip_srt : ∀ (a b : List Nt), SrtN a → SrtN b → SrtN (zipJ a b)
  | [], b, _, hb => by rw [zipJ]; exact hb
  | x :: a, [], ha, _ => by rw [zip_nil]; exact ha
  | x :: a, y :: b, ha, hb => by
    obtain ⟨ha1, ha2⟩ := srt_cons ha
    obtain ⟨hb1, hb2⟩ := srt_cons hb
    rw [zipJ]
    split
    · rename_i e
      refine List.pairwise_cons.2 ⟨fun z hz => ?_, zip_srt a b ha2 hb2⟩
      have : (if y.2.2.2 = 0 then y else x).1 = x.1 := by split; exact e.symm; rfl
      rw [this]
      exact zip_mem a b x.1 ha1 (fun q hq => by rw [e]; exact hb1 q hq) z hz
    · rename_i hne
      split
      · rename_i hl
        refine List.pairwise_cons.2 ⟨fun z hz => ?_, zip_srt a (y :: b) ha2 hb⟩
        exact zip_mem a (y :: b) x.1 ha1 (fun q hq => by rcases List.mem_cons.1 hq with rfl | hq; exact hl; exact less_trans hl (hb1 q hq)) z hz
      · rename_i hl
        have hl2 := not_less hne hl
        refine List.pairwise_cons.2 ⟨fun z hz => ?_, zip_srt (x :: a) b ha hb2⟩
        exact zip_mem (x :: a) b y.1 (fun q hq => by rcases List.mem_cons.1 hq with rfl | hq; exact hl2; exact less_trans hl2 (ha1 q hq)) hb1 z hz
termination_by a b => a.length + b.length
theorem at_cons (x : Nt) (l : List Nt) (d : Dt) : atS (x :: l) d = if x.1 = d then some x else atS l d := by
  unfold atS
  rw [List.find?_cons]
  by_cases h : x.1 = d <;> simp [h]
theorem at_past {l : List Nt} {d : Dt} (h : ∀ y ∈ l, less d y.1 = true) : atS l d = none := at_none.2 fun n hn e => by
  have := h n hn
  rw [e, less_irr] at this
  cases this
theorem zip_at : ∀ (a b : List Nt), SrtN a → SrtN b → ∀ d, atS (zipJ a b) d = match atS a d, atS b d with | none, y => y | some x, none => some x | some x, some y => some (if y.2.2.2 = 0 then y else x)
  | [], b, _, hb => fun d => by rw [zipJ]; rfl
  | x :: a, [], ha, _ => fun d => by
    rw [zip_nil]
    show atS (x :: a) d = match atS (x :: a) d, none with | none, y => y | some x, none => some x | some x, some y => some (if y.2.2.2 = 0 then y else x)
    cases atS (x :: a) d <;> rfl
  | x :: a, y :: b, ha, hb => fun d => by
    obtain ⟨ha1, ha2⟩ := srt_cons ha
    obtain ⟨hb1, hb2⟩ := srt_cons hb
    rw [zipJ]
    by_cases e : x.1 = y.1
    · rw [if_pos e]
      have e3 : (if y.2.2.2 = 0 then y else x).1 = x.1 := by split; exact e.symm; rfl
      rw [at_cons, at_cons x, at_cons y, e3, ← e, zip_at a b ha2 hb2 d]
      by_cases hd : x.1 = d
      · simp only [hd, if_true]
      · simp only [hd, if_false]
    · rw [if_neg e]
      by_cases hl : less x.1 y.1 = true
      · rw [if_pos hl, at_cons, at_cons x, zip_at a (y :: b) ha2 hb d]
        by_cases hd : x.1 = d
        · subst hd
          have hy : atS (y :: b) x.1 = none := at_past fun q hq => by rcases List.mem_cons.1 hq with rfl | hq; exact hl; exact less_trans hl (hb1 q hq)
          simp only [if_true, hy]
        · simp only [hd, if_false]
      · have hl2 := not_less e hl
        rw [if_neg hl, at_cons, at_cons y, zip_at (x :: a) b ha hb2 d]
        by_cases hd : y.1 = d
        · subst hd
          have hx : atS (x :: a) y.1 = none := at_past fun q hq => by rcases List.mem_cons.1 hq with rfl | hq; exact hl2; exact less_trans hl2 (ha1 q hq)
          simp only [if_true, hx]
        · simp only [hd, if_false]
termination_by a b => a.length + b.length
/-- Two stores that agree, zipped, are their join. -/
theorem zip_join {a b : List Nt} (ha : validS a = true) (hb : validS b = true) (h : agS a b = true) : zipJ a b = joinL a b :=
  at_ext (zip_srt a b (validS_iff.1 ha).2 (validS_iff.1 hb).2) (validS_iff.1 (join_valid ha hb h)).2 fun d => by
    rw [zip_at a b (validS_iff.1 ha).2 (validS_iff.1 hb).2 d, join_at ha hb h d]
    try (rcases atS a d with _ | x <;> rcases atS b d with _ | y <;> rfl)
/-- Whether all common dots agree, from the front. -/
def zagB : List Nt → List Nt → Bool
  | [], _ => true
  | _, [] => true
  | x :: a, y :: b => if x.1 = y.1 then agreeN x y && zagB a b else if less x.1 y.1 = true then zagB a (y :: b) else zagB (x :: a) b
termination_by a b => a.length + b.length
theorem zag_nil (a : List Nt) : zagB a [] = true := by
  rcases a with _ | ⟨x, a⟩ <;> rw [zagB]; simp
theorem ag_cons (x : Nt) (a b : List Nt) : agS (x :: a) b = ((match atS b x.1 with | none => true | some y => agreeN x y) && agS a b) := by
  unfold agS
  rw [List.all_cons]
  try (cases atS b x.1 <;> rfl)
theorem ag_skip {a b : List Nt} {y : Nt} (h : ∀ x ∈ a, y.1 ≠ x.1) : agS a (y :: b) = agS a b := by
  unfold agS
  rw [Bool.eq_iff_iff, List.all_eq_true, List.all_eq_true]
  constructor <;> intro h1 x hx <;> have h2 := h1 x hx
  · rw [at_cons, if_neg (h x hx)] at h2; exact h2
  · rw [at_cons, if_neg (h x hx)]; exact h2
theorem zag_ag : ∀ (a b : List Nt), SrtN a → SrtN b → zagB a b = agS a b
  | [], b, _, _ => by rw [zagB]; rfl
  | x :: a, [], _, _ => by
    rw [zag_nil]
    exact (List.all_eq_true.2 fun z _ => rfl).symm
  | x :: a, y :: b, ha, hb => by
    obtain ⟨ha1, ha2⟩ := srt_cons ha
    obtain ⟨hb1, hb2⟩ := srt_cons hb
    rw [zagB]
    by_cases e : x.1 = y.1
    · rw [if_pos e, ag_cons, at_cons, if_pos e.symm, ag_skip (fun q hq => by rw [← e]; exact less_ne (ha1 q hq)), zag_ag a b ha2 hb2]
    · rw [if_neg e]
      by_cases hl : less x.1 y.1 = true
      · have hy : atS (y :: b) x.1 = none := at_past fun q hq => by rcases List.mem_cons.1 hq with rfl | hq; exact hl; exact less_trans hl (hb1 q hq)
        rw [if_pos hl, ag_cons, hy, zag_ag a (y :: b) ha2 hb]
        rfl
      · have hl2 := not_less e hl
        rw [if_neg hl, ag_skip (fun q hq => by rcases List.mem_cons.1 hq with rfl | hq; exact less_ne hl2; exact less_ne (less_trans hl2 (ha1 q hq))), zag_ag (x :: a) b ha hb2]
termination_by a b => a.length + b.length

/-! ### Some states -/
end Go.Proofs.YtkcbekebleodaaaGreat.Jn
end

/-
  Stores, plainly: nodes with different dots as they have come so far; where the node with a dot is.
-/
section
namespace Go.Proofs.YtkcbekebleodaaaGreat.Qs
set_option linter.unusedVariables false
open D Nd

/-- Where the node with a dot is. -/
def idxG (l : List Nt) (d : Dt) : Option Int := (l.findIdx? fun x => decide (x.1 = d)).map Int.ofNat
theorem idxG_none {l : List Nt} {d : Dt} : idxG l d = none ↔ atS l d = none := by
  unfold idxG atS
  rw [Option.map_eq_none_iff, List.findIdx?_eq_none_iff, List.find?_eq_none]
  constructor
  · intro h x hx; simpa using h x hx
  · intro h x hx; simpa using h x hx
theorem idxG_some {l : List Nt} {d : Dt} {i : Int} (h : idxG l d = some i) : ∃ k, ∃ hk : k < l.length, i = (k : Int) ∧ l[k].1 = d ∧ atS l d = some l[k] := by
  unfold idxG at h
  obtain ⟨k, h1, rfl⟩ := Option.map_eq_some_iff.1 h
  obtain ⟨hk, h2, h3⟩ := List.findIdx?_eq_some_iff_getElem.1 h1
  refine ⟨k, hk, rfl, by simpa using h2, ?_⟩
  refine (idx_hit hk (fun j hj hjk => ?_) (by simpa using h2)).2
  simpa using h3 j hjk
/-- No two nodes have one dot. -/
def DN (l : List Nt) : Prop := (l.map (·.1)).Nodup
theorem dn_at {l : List Nt} (h : DN l) {i j : Nat} (hi : i < l.length) (hj : j < l.length) (e : l[i].1 = l[j].1) : i = j := by
  have h2 : (l.map (·.1)).Nodup := h
  rw [List.nodup_iff_pairwise_ne, List.pairwise_iff_getElem] at h2
  rcases Nat.lt_trichotomy i j with k | k | k
  · have := h2 i j (by simpa using hi) (by simpa using hj) k
    simp only [List.getElem_map] at this
    exact absurd e this
  · exact k
  · have := h2 j i (by simpa using hj) (by simpa using hi) k
    simp only [List.getElem_map] at this
    exact absurd e.symm this
theorem dn_of {l : List Nt} (h : ∀ i j (hi : i < l.length) (hj : j < l.length), i < j → l[i].1 ≠ l[j].1) : DN l := by
  unfold DN
  rw [List.nodup_iff_pairwise_ne, List.pairwise_iff_getElem]
  intro i j hi hj hij
  simp only [List.getElem_map]
  exact h i j (by simpa using hi) (by simpa using hj) hij
theorem dn_srt {l : List Nt} (h : SrtN l) : DN l := dn_of fun i j hi hj hij => less_ne (List.pairwise_iff_getElem.1 h i j hi hj hij)
theorem idxG_app {l : List Nt} {n : Nt} (h : atS l n.1 = none) (d : Dt) : idxG (l ++ [n]) d = if d = n.1 then some (l.length : Int) else idxG l d := by
  have h0 := at_none.1 h
  unfold idxG
  rw [List.findIdx?_append]
  by_cases hd : d = n.1
  · subst hd
    have : List.findIdx? (fun x : Nt => decide (x.1 = n.1)) l = none := by
      rw [List.findIdx?_eq_none_iff]; intro x hx; simpa using h0 x hx
    rw [this]
    simp
  · rw [if_neg hd]
    have h1 : List.findIdx? (fun x : Nt => decide (x.1 = d)) [n] = none := by
      rw [List.findIdx?_eq_none_iff]; intro x hx; simp at hx; subst hx; simpa using fun e => hd e.symm
    rw [h1]
    simp
theorem idxG_take {l : List Nt} (h : DN l) {k : Nat} (hk : k < l.length) (d : Dt) : idxG (l.take (k + 1)) d = if d = l[k].1 then some (k : Int) else idxG (l.take k) d := by
  have e : l.take (k + 1) = l.take k ++ [l[k]] := by rw [List.take_add_one, List.getElem?_eq_getElem hk]; rfl
  have hn : atS (l.take k) l[k].1 = none := at_none.2 fun x hx hxe => by
    obtain ⟨j, hj, rfl⟩ := List.mem_iff_getElem.1 hx
    rw [List.length_take] at hj
    rw [List.getElem_take] at hxe
    have := dn_at h (by omega) hk hxe
    omega
  rw [e, idxG_app hn, List.length_take, Nat.min_eq_left (Nat.le_of_lt hk)]

/-! ### A gathering -/
end Go.Proofs.YtkcbekebleodaaaGreat.Qs
end

/-
  How nodes hang together, plainly: paths, children, what is below.
-/
section
namespace Go.Proofs.YtkcbekebleodaaaGreat.Wk
set_option linter.unusedVariables false
open D Nd Qs

/-! ### Paths -/
def pathS (l : List Nt) : Nat → Dt → Option (List Dt)
  | 0, _ => none
  | n + 1, d => if rootR d = true then some [] else match atS l d with | none => none | some x => (pathS l n x.2.1).map (· ++ [d])
/-- The path to a dot. -/
def Pt (l : List Nt) (d : Dt) (p : List Dt) : Prop := ∃ n, pathS l n d = some p
theorem path_mono {l : List Nt} : ∀ {n m : Nat} {d : Dt} {p : List Dt}, pathS l n d = some p → n ≤ m → pathS l m d = some p
  | 0, _, _, _, h, _ => by cases h
  | n + 1, 0, _, _, h, hm => by omega
  | n + 1, m + 1, d, p, h, hm => by
    unfold pathS at h ⊢
    split
    · rename_i hr; rw [if_pos hr] at h; exact h
    · rename_i hr
      rw [if_neg hr] at h
      rcases ha : atS l d with _ | x
      · rw [ha] at h; cases h
      · simp only [ha] at h ⊢
        rcases hp : pathS l n x.2.1 with _ | q
        · rw [hp] at h; cases h
        · rw [path_mono hp (by omega)]
          rw [hp] at h
          exact h
theorem pt_uniq {l : List Nt} {d : Dt} {p q : List Dt} (h : Pt l d p) (k : Pt l d q) : p = q := by
  obtain ⟨n, hn⟩ := h
  obtain ⟨m, hm⟩ := k
  have h1 := path_mono hn (Nat.le_max_left n m)
  have h2 := path_mono hm (Nat.le_max_right n m)
  rw [h1] at h2
  exact Option.some.inj h2
theorem pt_root {l : List Nt} {d : Dt} (h : rootR d = true) : Pt l d [] := ⟨1, by unfold pathS; rw [if_pos h]⟩
theorem pt_step {l : List Nt} {x : Nt} {p : List Dt} (hs : SrtN l) (hx : x ∈ l) (hr : rootR x.1 = false) (h : Pt l x.2.1 p) : Pt l x.1 (p ++ [x.1]) := by
  obtain ⟨n, hn⟩ := h
  refine ⟨n + 1, ?_⟩
  unfold pathS
  rw [if_neg (by rw [hr]; decide), at_mem hs hx]
  simp only [hn, Option.map_some]
theorem pt_inv {l : List Nt} {d : Dt} {p : List Dt} (h : Pt l d p) : (rootR d = true ∧ p = []) ∨ (rootR d = false ∧ ∃ x q, atS l d = some x ∧ Pt l x.2.1 q ∧ p = q ++ [d]) := by
  obtain ⟨n, hn⟩ := h
  cases n with
  | zero => cases hn
  | succ n =>
    unfold pathS at hn
    split at hn
    · rename_i hr; exact .inl ⟨hr, (Option.some.inj hn).symm⟩
    · rename_i hr
      rcases ha : atS l d with _ | x
      · rw [ha] at hn; cases hn
      · simp only [ha] at hn
        rcases hp : pathS l n x.2.1 with _ | q
        · rw [hp] at hn; cases hn
        · rw [hp] at hn
          exact .inr ⟨by simpa using hr, x, q, rfl, ⟨n, hp⟩, (Option.some.inj hn).symm⟩
/-- Each dot of a path has its own path: what comes before it, and itself. -/
theorem pt_prefix {l : List Nt} : ∀ {p : List Dt} {d : Dt}, Pt l d p → ∀ {a : List Dt} {e : Dt} {b : List Dt}, p = a ++ e :: b → Pt l e (a ++ [e]) := by
  intro p
  induction hn : p.length using Nat.strongRecOn generalizing p with
  | _ n ih =>
    intro d h a e b hp
    rcases pt_inv h with ⟨_, rfl⟩ | ⟨_, x, q, h1, h2, rfl⟩
    · simp at hp
    · rcases List.eq_nil_or_concat b with rfl | ⟨b', c, rfl⟩
      · rw [show a ++ [e] = a ++ [e] from rfl] at hp
        obtain ⟨rfl, h3⟩ := List.append_inj' hp rfl
        simp only [List.cons.injEq, and_true] at h3
        subst h3
        exact h
      · rw [show a ++ e :: (b'.concat c) = (a ++ e :: b') ++ [c] by simp] at hp
        obtain ⟨h3, -⟩ := List.append_inj' hp rfl
        exact ih q.length (by rw [← hn]; simp) rfl h2 h3
theorem pt_last {l : List Nt} {d e : Dt} {a : List Dt} (h : Pt l d (a ++ [e])) : e = d := by
  rcases pt_inv h with ⟨_, h⟩ | ⟨_, x, q, h1, h2, h⟩
  · simp at h
  · obtain ⟨-, h3⟩ := List.append_inj' h rfl
    simpa using h3
theorem pt_mem {l : List Nt} {d : Dt} {p : List Dt} (h : Pt l d p) : ∀ e ∈ p, rootR e = false ∧ ∃ x ∈ l, x.1 = e := by
  intro e he
  obtain ⟨a, b, rfl⟩ := List.append_of_mem he
  rcases pt_inv (pt_prefix h rfl) with ⟨_, h⟩ | ⟨hr, x, q, h1, _, h⟩
  · simp at h
  · exact ⟨hr, x, at_some h1⟩
theorem at_parts {p : List Dt} {i : Nat} (hi : i < p.length) : p = p.take i ++ p[i] :: p.drop (i + 1) := by rw [← List.drop_eq_getElem_cons hi, List.take_append_drop]
theorem pt_nodup {l : List Nt} {d : Dt} {p : List Dt} (h : Pt l d p) : p.Pairwise (· ≠ ·) := by
  rw [List.pairwise_iff_getElem]
  intro i j hi hj hij e
  have k1 := pt_prefix h (at_parts hi)
  have k2 := pt_prefix h (at_parts hj)
  rw [← e] at k2
  have := congrArg List.length (pt_uniq k1 k2)
  simp only [List.length_append, List.length_take, List.length_cons, List.length_nil] at this
  omega
theorem nd_len {α : Type} : ∀ {a b : List α}, a.Pairwise (· ≠ ·) → (∀ x ∈ a, x ∈ b) → a.length ≤ b.length
  | [], _, _, _ => by simp
  | x :: t, b, h, hs => by
    rw [List.pairwise_cons] at h
    obtain ⟨b1, b2, rfl⟩ := List.append_of_mem (hs x (by simp))
    have := nd_len (a := t) (b := b1 ++ b2) h.2 (fun y hy => by
      have h1 := hs y (by simp [hy])
      have h2 := h.1 y hy
      simp only [List.mem_append, List.mem_cons] at h1 ⊢
      rcases h1 with h1 | h1 | h1
      · exact .inl h1
      · exact absurd h1.symm h2
      · exact .inr h1)
    simp only [List.length_append, List.length_cons] at this ⊢
    omega
theorem pt_len {l : List Nt} {d : Dt} {p : List Dt} (h : Pt l d p) : p.length ≤ l.length := by
  have := nd_len (b := l.map (·.1)) (pt_nodup h) (fun e he => by
    obtain ⟨-, x, hx, rfl⟩ := pt_mem h e he
    exact List.mem_map.2 ⟨x, hx, rfl⟩)
  rwa [List.length_map] at this
theorem pt_fuel {l : List Nt} : ∀ {p : List Dt} {d : Dt}, Pt l d p → pathS l (p.length + 1) d = some p := by
  intro p
  induction hn : p.length using Nat.strongRecOn generalizing p with
  | _ n ih =>
    intro d h
    rcases pt_inv h with ⟨hr, rfl⟩ | ⟨hr, x, q, h1, h2, rfl⟩
    · unfold pathS; rw [if_pos hr]
    · have := ih q.length (by rw [← hn]; simp) rfl h2
      unfold pathS
      rw [if_neg (by rw [hr]; decide), h1]
      simp only
      rw [show n = q.length + 1 by rw [← hn]; simp, this]
      rfl
/-- So many steps are enough. -/
theorem pt_iff {l : List Nt} {d : Dt} {p : List Dt} : Pt l d p ↔ pathS l (l.length + 1) d = some p := ⟨fun h => path_mono (pt_fuel h) (by have := pt_len h; omega), fun h => ⟨_, h⟩⟩
end Go.Proofs.YtkcbekebleodaaaGreat.Wk
end

/-
  The order of the tree, plainly.
-/
section
namespace Go.Proofs.YtkcbekebleodaaaGreat.Wk
set_option linter.unusedVariables false
open D Nd Qs

/-! ### Children -/
def insB (o : List Nt) (x : Nt) : List Nt := (o.takeWhile fun y => beforeN y x) ++ x :: (o.dropWhile fun y => beforeN y x)
theorem mem_insB {o : List Nt} {x y : Nt} : y ∈ insB o x ↔ y = x ∨ y ∈ o := by
  unfold insB
  rw [List.mem_append, List.mem_cons]
  have e := List.takeWhile_append_dropWhile (p := fun y => beforeN y x) (l := o)
  constructor
  · rintro (h | h | h)
    · right; rw [← e]; exact List.mem_append.2 (.inl h)
    · exact .inl h
    · right; rw [← e]; exact List.mem_append.2 (.inr h)
  · rintro (h | h)
    · exact .inr (.inl h)
    · rw [← e] at h
      rcases List.mem_append.1 h with h | h
      · exact .inl h
      · exact .inr (.inr h)
def SrtB (l : List Nt) : Prop := l.Pairwise fun a b => beforeN a b = true
theorem before_tri {a b : Nt} (hne : a.1 ≠ b.1) (h : beforeN a b = false) : beforeN b a = true := by
  have := before_one a b
  rw [h, Bool.false_or] at this
  rw [this]
  simp [hne]
theorem insB_srt {o : List Nt} {x : Nt} (hs : SrtB o) (hne : ∀ y ∈ o, y.1 ≠ x.1) : SrtB (insB o x) := by
  induction o with
  | nil => unfold insB SrtB; simp
  | cons a t ih =>
    unfold SrtB at hs
    rw [List.pairwise_cons] at hs
    have ih2 := ih hs.2 fun y hy => hne y (by simp [hy])
    rcases hb : beforeN a x with _ | _
    · have e : insB (a :: t) x = x :: a :: t := by unfold insB; rw [List.takeWhile_cons, List.dropWhile_cons, hb]; rfl
      have hxa := before_tri (hne a (by simp)) hb
      rw [e]
      unfold SrtB
      rw [List.pairwise_cons, List.pairwise_cons]
      refine ⟨fun y hy => ?_, hs⟩
      rcases List.mem_cons.1 hy with rfl | hy
      · exact hxa
      · exact before_trans hxa (hs.1 y hy)
    · have e : insB (a :: t) x = a :: insB t x := by unfold insB; rw [List.takeWhile_cons, List.dropWhile_cons, hb]; rfl
      rw [e]
      unfold SrtB
      rw [List.pairwise_cons]
      refine ⟨fun y hy => ?_, ih2⟩
      rcases mem_insB.1 hy with rfl | hy
      · exact hb
      · exact hs.1 y hy
def childF (d : Dt) (o : List Nt) (n : Nt) : List Nt := if n.2.1 = d then insB o n else o
def childS (l : List Nt) (d : Dt) : List Nt := l.foldl (childF d) []
theorem child_fold (d : Dt) : ∀ (t o : List Nt), SrtB o → t.Pairwise (fun a b => a.1 ≠ b.1) → (∀ y ∈ o, ∀ x ∈ t, y.1 ≠ x.1) → SrtB (t.foldl (childF d) o) ∧ ∀ x, x ∈ t.foldl (childF d) o ↔ x ∈ o ∨ (x ∈ t ∧ x.2.1 = d)
  | [], o, h1, _, _ => ⟨h1, fun x => by simp⟩
  | n :: t, o, h1, h2, h3 => by
    rw [List.pairwise_cons] at h2
    have k1 : SrtB (childF d o n) := by
      unfold childF
      split
      · exact insB_srt h1 fun y hy => h3 y hy n (by simp)
      · exact h1
    have k2 : ∀ y, y ∈ childF d o n ↔ y ∈ o ∨ (y = n ∧ n.2.1 = d) := fun y => by
      unfold childF
      split
      · rename_i e
        rw [mem_insB]
        exact ⟨fun h => h.elim (fun h => .inr ⟨h, e⟩) .inl, fun h => h.elim .inr fun h => .inl h.1⟩
      · rename_i e
        exact ⟨.inl, fun h => h.elim id fun h => absurd h.2 e⟩
    obtain ⟨m1, m2⟩ := child_fold d t (childF d o n) k1 h2.2 fun y hy x hx => by
      rcases (k2 y).1 hy with h | ⟨rfl, -⟩
      · exact h3 y h x (by simp [hx])
      · exact h2.1 x hx
    refine ⟨m1, fun x => ?_⟩
    rw [List.foldl_cons, m2, k2, List.mem_cons]
    constructor
    · rintro ((h | ⟨rfl, h⟩) | ⟨h, e⟩)
      · exact .inl h
      · exact .inr ⟨.inl rfl, h⟩
      · exact .inr ⟨.inr h, e⟩
    · rintro (h | ⟨rfl | h, e⟩)
      · exact .inl (.inl h)
      · exact .inl (.inr ⟨rfl, e⟩)
      · exact .inr ⟨h, e⟩
theorem srt_ne {l : List Nt} (hs : SrtN l) : l.Pairwise fun a b => a.1 ≠ b.1 := hs.imp fun h => less_ne h
theorem mem_child {l : List Nt} (hs : SrtN l) {d : Dt} {x : Nt} : x ∈ childS l d ↔ x ∈ l ∧ x.2.1 = d := by
  unfold childS
  rw [(child_fold d l [] List.Pairwise.nil (srt_ne hs) (by simp)).2]
  simp
theorem srt_child {l : List Nt} (hs : SrtN l) (d : Dt) : SrtB (childS l d) := (child_fold d l [] List.Pairwise.nil (srt_ne hs) (by simp)).1
theorem srtB_ext : ∀ {l m : List Nt}, SrtB l → SrtB m → (∀ x, x ∈ l ↔ x ∈ m) → l = m
  | [], [], _, _, _ => rfl
  | [], b :: m, _, _, h => absurd ((h b).2 (by simp)) (by simp)
  | a :: l, [], _, _, h => absurd ((h a).1 (by simp)) (by simp)
  | a :: l, b :: m, hl, hm, h => by
    unfold SrtB at hl hm
    rw [List.pairwise_cons] at hl hm
    have hab : a = b := by
      rcases List.mem_cons.1 ((h a).1 (by simp)) with e | e
      · exact e
      · rcases List.mem_cons.1 ((h b).2 (by simp)) with e2 | e2
        · exact e2.symm
        · have h1 := hm.1 a e
          have h2 := hl.1 b e2
          rw [before_asymm h1] at h2
          cases h2
    subst hab
    congr 1
    have irr : ∀ x, beforeN a x = true → x ≠ a := fun x hx e => by rw [e, before_irr] at hx; cases hx
    refine srtB_ext hl.2 hm.2 fun x => ?_
    constructor
    · intro hx
      exact (List.mem_cons.1 ((h x).1 (List.mem_cons_of_mem _ hx))).resolve_left (irr x (hl.1 x hx))
    · intro hx
      exact (List.mem_cons.1 ((h x).2 (List.mem_cons_of_mem _ hx))).resolve_left (irr x (hm.1 x hx))
/-- The children, by what they are. -/
theorem child_eq {l m : List Nt} (hs : SrtN l) {d : Dt} (hm : SrtB m) (h : ∀ x, x ∈ m ↔ x ∈ l ∧ x.2.1 = d) : m = childS l d := srtB_ext hm (srt_child hs d) fun x => by rw [h, mem_child hs]
theorem child_nodup {l : List Nt} (hs : SrtN l) (d : Dt) : (childS l d).Pairwise fun a b => a.1 ≠ b.1 := by
  have h1 : (childS l d).Pairwise fun a b => beforeN a b = true := srt_child hs d
  refine List.Pairwise.imp_of_mem (fun {a b} ha hb h e => ?_) h1
  have := srt_one hs ((mem_child hs).1 ha).1 ((mem_child hs).1 hb).1 e
  rw [this, before_irr] at h
  cases h

/-! ### What is below -/
def belowS (l : List Nt) : Nat → Dt → List Nt
  | 0, _ => []
  | n + 1, d => (childS l d).flatMap fun c => c :: belowS l n c.1
def Bw (l : List Nt) (d : Dt) : List Nt := belowS l (l.length + 1) d
def orderS (l : List Nt) : List Nt := Bw l (0, 0)
theorem not_root {n : Nt} (h : validN n = true) : rootR n.1 = false := by
  have := (valid_vn.1 h).1
  rw [← Bool.not_eq_true]
  intro hr
  unfold validR at this
  unfold rootR at hr
  simp at this hr
  omega
theorem root_eq {d : Dt} (h : rootR d = true) : d = (0, 0) := by
  unfold rootR at h
  simp at h
  exact Prod.ext h.1 h.2
theorem child_path {l : List Nt} (hv : validS l = true) {d : Dt} {p : List Dt} (hp : Pt l d p) {c : Nt} (hc : c ∈ childS l d) : Pt l c.1 (p ++ [c.1]) := by
  obtain ⟨h1, h2⟩ := validS_iff.1 hv
  obtain ⟨k1, rfl⟩ := (mem_child h2).1 hc
  exact pt_step h2 k1 (not_root (h1 c k1)) hp
theorem below_stable {l : List Nt} (hv : validS l = true) : ∀ (n m : Nat) (d : Dt) (p : List Dt), Pt l d p → l.length + 1 ≤ n + p.length → l.length + 1 ≤ m + p.length → belowS l n d = belowS l m d
  | 0, m, d, p, hp, hn, hm => by have := pt_len hp; omega
  | n + 1, 0, d, p, hp, hn, hm => by have := pt_len hp; omega
  | n + 1, m + 1, d, p, hp, hn, hm => by
    rw [belowS, belowS]
    have e : ∀ c ∈ childS l d, c :: belowS l n c.1 = c :: belowS l m c.1 := fun c hc => by
      rw [below_stable hv n m c.1 (p ++ [c.1]) (child_path hv hp hc) (by simp; omega) (by simp; omega)]
    unfold List.flatMap
    rw [List.map_congr_left e]
theorem bw_eq {l : List Nt} (hv : validS l = true) {d : Dt} {p : List Dt} (hp : Pt l d p) : Bw l d = (childS l d).flatMap fun c => c :: Bw l c.1 := by
  have hl := pt_len hp
  rw [show Bw l d = belowS l (l.length + 1 + 1) d from below_stable hv _ _ d p hp (by omega) (by omega), belowS]
  rfl
/-- What is below has a longer path. -/
theorem bw_path {l : List Nt} (hv : validS l = true) : ∀ (k : Nat) {d : Dt} {p : List Dt}, Pt l d p → l.length + 1 ≤ k + p.length → ∀ x ∈ Bw l d, x ∈ l ∧ ∃ r, r ≠ [] ∧ Pt l x.1 (p ++ r)
  | 0, d, p, hp, hk, x, hx => by have := pt_len hp; omega
  | k + 1, d, p, hp, hk, x, hx => by
    rw [bw_eq hv hp, List.mem_flatMap] at hx
    obtain ⟨c, hc, hx⟩ := hx
    have hcp := child_path hv hp hc
    rcases List.mem_cons.1 hx with rfl | hx
    · exact ⟨((mem_child (validS_iff.1 hv).2).1 hc).1, [x.1], by simp, hcp⟩
    · obtain ⟨h1, r, h2, h3⟩ := bw_path hv k hcp (by simp; omega) x hx
      exact ⟨h1, c.1 :: r, by simp, by rw [show p ++ c.1 :: r = p ++ [c.1] ++ r by simp]; exact h3⟩
theorem pt_same {l : List Nt} {d e : Dt} {p : List Dt} (h : Pt l d p) (k : Pt l e p) : d = e := by
  rcases List.eq_nil_or_concat p with rfl | ⟨q, z, rfl⟩
  · rcases pt_inv h with ⟨h1, -⟩ | ⟨_, x, q, _, _, h2⟩
    · rcases pt_inv k with ⟨k1, -⟩ | ⟨_, x, q, _, _, k2⟩
      · rw [root_eq h1, root_eq k1]
      · simp at k2
    · simp at h2
  · rw [List.concat_eq_append] at h k
    rw [← pt_last h, ← pt_last k]
theorem bw_mem {l : List Nt} (hv : validS l = true) : ∀ (r : List Dt) {d : Dt} {p : List Dt}, Pt l d p → ∀ x ∈ l, r ≠ [] → Pt l x.1 (p ++ r) → x ∈ Bw l d
  | [], d, p, hp, x, hx, hr, h => absurd rfl hr
  | e :: r, d, p, hp, x, hx, _, h => by
    obtain ⟨h1, h2⟩ := validS_iff.1 hv
    have he := pt_prefix h (a := p) (e := e) (b := r) rfl
    rcases pt_inv he with ⟨_, k⟩ | ⟨_, c, q, k1, k2, k3⟩
    · simp at k
    · obtain ⟨rfl, -⟩ := List.append_inj' k3 rfl
      obtain ⟨c1, rfl⟩ := at_some k1
      have hc : c ∈ childS l d := (mem_child h2).2 ⟨c1, pt_same k2 hp⟩
      rw [bw_eq hv hp, List.mem_flatMap]
      refine ⟨c, hc, ?_⟩
      by_cases hr : r = []
      · subst hr
        have := pt_last h
        rw [srt_one h2 hx c1 this.symm]
        simp
      · right
        exact bw_mem hv r he x hx hr (by rw [show p ++ [c.1] ++ r = p ++ c.1 :: r by simp]; exact h)
theorem order_mem {l : List Nt} (hv : validS l = true) {x : Nt} : x ∈ orderS l ↔ x ∈ l ∧ ∃ p, Pt l x.1 p := by
  have hr : Pt l (0, 0) [] := pt_root (by decide)
  constructor
  · intro h
    obtain ⟨h1, r, -, h2⟩ := bw_path hv _ hr (Nat.le_refl _) x h
    exact ⟨h1, _, h2⟩
  · rintro ⟨h1, p, h2⟩
    refine bw_mem hv p hr x h1 ?_ (by simpa using h2)
    rintro rfl
    rcases pt_inv h2 with ⟨k, -⟩ | ⟨_, y, q, _, _, k⟩
    · rw [not_root ((validS_iff.1 hv).1 x h1)] at k; cases k
    · simp at k
theorem bw_nodup {l : List Nt} (hv : validS l = true) : ∀ (k : Nat) {d : Dt} {p : List Dt}, Pt l d p → l.length + 1 ≤ k + p.length → (Bw l d).Pairwise fun a b => a.1 ≠ b.1
  | 0, d, p, hp, hk => by have := pt_len hp; omega
  | k + 1, d, p, hp, hk => by
    have hs := (validS_iff.1 hv).2
    rw [bw_eq hv hp, List.pairwise_flatMap]
    have inside : ∀ c ∈ childS l d, ∀ x ∈ c :: Bw l c.1, ∃ r, Pt l x.1 (p ++ c.1 :: r) := fun c hc x hx => by
      have hcp := child_path hv hp hc
      rcases List.mem_cons.1 hx with rfl | hx
      · exact ⟨[], hcp⟩
      · obtain ⟨-, r, -, h⟩ := bw_path hv k hcp (by simp; omega) x hx
        exact ⟨r, by rw [show p ++ c.1 :: r = p ++ [c.1] ++ r by simp]; exact h⟩
    constructor
    · intro c hc
      have hcp := child_path hv hp hc
      rw [List.pairwise_cons]
      refine ⟨fun x hx e => ?_, bw_nodup hv k hcp (by simp; omega)⟩
      obtain ⟨-, r, hr, h⟩ := bw_path hv k hcp (by simp; omega) x hx
      rw [← e] at h
      have := congrArg List.length (pt_uniq hcp h)
      simp at this
      exact hr this
    · refine List.Pairwise.imp_of_mem (fun {a b} ha hb hne x hx y hy e => ?_) (child_nodup hs d)
      obtain ⟨r1, h1⟩ := inside a ha x hx
      obtain ⟨r2, h2⟩ := inside b hb y hy
      rw [e] at h1
      have := List.append_cancel_left (pt_uniq h1 h2)
      simp only [List.cons.injEq] at this
      exact hne this.1
end Go.Proofs.YtkcbekebleodaaaGreat.Wk
end

/-
  Ordered lists of nodes, plainly: where a node belongs, a node more.
-/
section
namespace Go.Proofs.YtkcbekebleodaaaGreat.Un
set_option linter.unusedVariables false
open D Nd Qs Wk

/-- How many nodes come before a node. -/
def rank (l : List Nt) (k : Nt) : Nat := (l.takeWhile fun p => beforeN p k).length
theorem rank_le (l : List Nt) (k : Nt) : rank l k ≤ l.length := by
  unfold rank
  induction l with
  | nil => simp
  | cons a t ih =>
    simp only [List.takeWhile_cons]
    split
    · simp only [List.length_cons]; omega
    · simp
theorem rank_lo {k : Nt} : ∀ {l : List Nt} {i : Nat} (h : i < l.length), i < rank l k → beforeN l[i] k = true
  | a :: t, 0, h, hi => by
    simp only [rank, List.takeWhile_cons] at hi
    split at hi
    · assumption
    · simp at hi
  | a :: t, i + 1, h, hi => by
    simp only [rank, List.takeWhile_cons] at hi
    split at hi
    · exact rank_lo (l := t) (by simpa using h) (by simpa [rank] using hi)
    · simp at hi
theorem rank_at {k : Nt} : ∀ {l : List Nt} (h : rank l k < l.length), beforeN l[rank l k] k = false
  | [], h => by simp at h
  | a :: t, h => by
    rcases ha : beforeN a k with _ | _
    · have e : rank (a :: t) k = 0 := by simp [rank, ha]
      simp only [e, List.getElem_cons_zero, ha]
    · have e : rank (a :: t) k = rank t k + 1 := by simp [rank, ha]
      simp only [e, List.getElem_cons_succ]
      exact rank_at (l := t) (by rw [e] at h; simpa using h)
/-- What a search finds is the rank. -/
theorem rank_eq {k : Nt} {l : List Nt} {i : Nat} (hi : i ≤ l.length) (h1 : ∀ j (hj : j < l.length), j < i → beforeN l[j] k = true) (h2 : ∀ hj : i < l.length, beforeN l[i] k = false) : rank l k = i := by
  rcases Nat.lt_trichotomy (rank l k) i with h | h | h
  · have := h1 (rank l k) (by omega) h
    rw [rank_at (by omega)] at this
    cases this
  · exact h
  · have hl := rank_le l k
    have := rank_lo (k := k) (l := l) (i := i) (by omega) h
    rw [h2 (by omega)] at this
    cases this
section
variable {l r : List Nt} {p k : Nt}
theorem rank_l (h : beforeN p k = false) : rank (l ++ p :: r) k = rank l k := by
  have h0 := rank_le l k
  refine rank_eq (by rw [List.length_append]; omega) (fun j hj hji => ?_) fun hj => ?_
  · rw [List.getElem_append_left (by omega)]
    exact rank_lo (by omega) hji
  · by_cases h1 : rank l k < l.length
    · rw [List.getElem_append_left h1]
      exact rank_at h1
    · have e : rank l k = l.length := by omega
      simp only [e]
      rw [List.getElem_append_right (Nat.le_refl _)]
      simpa using h
theorem rank_r (hs : SrtB (l ++ p :: r)) (h : beforeN p k = true) : rank (l ++ p :: r) k = l.length + 1 + rank r k := by
  have h0 := rank_le r k
  unfold SrtB at hs
  rw [List.pairwise_append] at hs
  refine rank_eq (by rw [List.length_append, List.length_cons]; omega) (fun j hj hji => ?_) fun hj => ?_
  · rcases Nat.lt_trichotomy j l.length with h1 | h1 | h1
    · rw [List.getElem_append_left h1]
      exact before_trans (hs.2.2 _ (List.getElem_mem h1) p (by simp)) h
    · subst h1
      rw [List.getElem_append_right (Nat.le_refl _)]
      simpa using h
    · rw [List.getElem_append_right (by omega)]
      obtain ⟨m, hm⟩ : ∃ m, j - l.length = m + 1 := ⟨j - l.length - 1, by omega⟩
      simp only [hm, List.getElem_cons_succ]
      exact rank_lo (by omega) (by omega)
  · rw [List.getElem_append_right (by omega)]
    simp only [show l.length + 1 + rank r k - l.length = rank r k + 1 by omega, List.getElem_cons_succ]
    exact rank_at _
theorem srt_parts (hs : SrtB (l ++ p :: r)) : SrtB l ∧ SrtB r := by
  unfold SrtB at *
  rw [List.pairwise_append, List.pairwise_cons] at hs
  exact ⟨hs.1, hs.2.1.2⟩
end
/-- No node of the list has the dot of this one. -/
def Fr (l : List Nt) (k : Nt) : Prop := ∀ p ∈ l, p.1 ≠ k.1
theorem Fr.parts {l r : List Nt} {p k : Nt} (h : Fr (l ++ p :: r) k) : Fr l k ∧ p.1 ≠ k.1 ∧ Fr r k := ⟨fun q hq => h q (by simp [hq]), h p (by simp), fun q hq => h q (by simp [hq])⟩

theorem take_lt {l m : List Nt} {p : Nt} {n : Nat} (h : n ≤ l.length) : (l ++ p :: m).take n = l.take n := by rw [List.take_append_of_le_length h]
theorem drop_lt {l m : List Nt} {p : Nt} {n : Nat} (h : n ≤ l.length) : (l ++ p :: m).drop n = l.drop n ++ p :: m := by rw [List.drop_append_of_le_length h]
theorem take_gt {l m : List Nt} {p : Nt} {n : Nat} : (l ++ p :: m).take (l.length + 1 + n) = l ++ p :: m.take n := by
  rw [List.take_append, List.take_of_length_le (by omega), show l.length + 1 + n - l.length = n + 1 by omega, List.take_succ_cons]
theorem drop_gt {l m : List Nt} {p : Nt} {n : Nat} : (l ++ p :: m).drop (l.length + 1 + n) = m.drop n := by
  rw [List.drop_append, List.drop_eq_nil_of_le (by omega), show l.length + 1 + n - l.length = n + 1 by omega, List.drop_succ_cons, List.nil_append]
/-- The list with an entry more. -/
def insAt (L : List Nt) (n : Nat) (k : Nt) : List Nt := L.take n ++ k :: L.drop n
theorem insAt_len (L : List Nt) (n : Nat) (k : Nt) : (insAt L n k).length = L.length + 1 := by
  unfold insAt
  rw [List.length_append, List.length_cons, List.length_take, List.length_drop]
  omega
theorem insAt_lt {l m : List Nt} {p : Nt} {n : Nat} (h : n ≤ l.length) (k : Nt) : insAt (l ++ p :: m) n k = insAt l n k ++ p :: m := by
  unfold insAt
  rw [take_lt h, drop_lt h]
  simp
theorem insAt_gt {l m : List Nt} {p : Nt} {n : Nat} (k : Nt) : insAt (l ++ p :: m) (l.length + 1 + n) k = l ++ p :: insAt m n k := by
  unfold insAt
  rw [take_gt, drop_gt]
  simp
theorem cut_of {a b L : List Nt} (h : a ++ b = L) : L.take a.length = a ∧ L.drop a.length = b := by
  subst h
  exact ⟨List.take_left, List.drop_left⟩
theorem insAt_rank (L : List Nt) (k : Nt) : insAt L (rank L k) k = insB L k := by
  obtain ⟨h1, h2⟩ := cut_of (List.takeWhile_append_dropWhile (p := fun p => beforeN p k) (l := L))
  unfold insAt insB rank
  rw [h1, h2]
end Go.Proofs.YtkcbekebleodaaaGreat.Un
end

/-
  The tree, plainly: what the laws ask; a node more.
-/
section
namespace Go.Proofs.YtkcbekebleodaaaGreat.Wk
set_option linter.unusedVariables false
open D Nd Qs

/-! ### Lost nodes -/
def isLost (l : List Nt) (n : Nt) : Bool := (pathS l (l.length + 1) n.1).isNone
theorem lost_iff {l : List Nt} {n : Nt} : isLost l n = true ↔ ¬ ∃ p, Pt l n.1 p := by
  unfold isLost
  constructor
  · rintro h ⟨p, hp⟩
    rw [pt_iff.1 hp] at h
    cases h
  · intro h
    rcases hp : pathS l (l.length + 1) n.1 with _ | p
    · rfl
    · exact absurd ⟨p, pt_iff.2 hp⟩ h
def lostF (l : List Nt) (o : List Dt) (n : Nt) : List Dt := if isLost l n = true then ins o n.1 else o
def lostS (l : List Nt) : List Dt := l.foldl (lostF l) []
theorem lost_fold (l : List Nt) : ∀ (t : List Nt) (o : List Dt), Srt o → Srt (t.foldl (lostF l) o) ∧ ∀ d, d ∈ t.foldl (lostF l) o ↔ d ∈ o ∨ ∃ n ∈ t, isLost l n = true ∧ n.1 = d
  | [], o, h => ⟨h, fun d => by simp⟩
  | n :: t, o, h => by
    rw [List.foldl_cons]
    have h2 : Srt (lostF l o n) := by unfold lostF; split; exact srt_ins h _; exact h
    obtain ⟨k1, k2⟩ := lost_fold l t _ h2
    refine ⟨k1, fun d => ?_⟩
    rw [k2]
    unfold lostF
    constructor
    · rintro (h3 | ⟨x, hx, hy⟩)
      · split at h3
        · rename_i hq
          rcases mem_ins.1 h3 with h3 | h3
          · exact .inl h3
          · exact .inr ⟨n, by simp, hq, h3.symm⟩
        · exact .inl h3
      · exact .inr ⟨x, by simp [hx], hy⟩
    · rintro (h3 | ⟨x, hx, hq, e⟩)
      · left
        split
        · exact mem_ins.2 (.inl h3)
        · exact h3
      · rcases List.mem_cons.1 hx with rfl | hx
        · left
          rw [if_pos hq]
          exact mem_ins.2 (.inr e.symm)
        · exact .inr ⟨x, hx, hq, e⟩
theorem lost_eq {l : List Nt} (hs : SrtN l) : lostS l = (l.filter (isLost l)).map (·.1) := by
  refine srt_ext (lost_fold l l [] srt_nil).1 ?_ fun d => ?_
  · unfold Srt
    rw [List.pairwise_map]
    exact List.Pairwise.sublist List.filter_sublist hs
  · unfold lostS
    rw [(lost_fold l l [] srt_nil).2]
    simp only [List.mem_map, List.mem_filter]
    constructor
    · rintro (h | ⟨n, h1, h2, h3⟩)
      · cases h
      · exact ⟨n, ⟨h1, h2⟩, h3⟩
    · rintro ⟨n, ⟨h1, h2⟩, h3⟩
      exact .inr ⟨n, h1, h2, h3⟩
theorem filter_two {α : Type} (q : α → Bool) : ∀ l : List α, (l.filter q).length + (l.filter fun x => !q x).length = l.length
  | [] => rfl
  | a :: t => by
    have := filter_two q t
    rw [List.filter_cons, List.filter_cons]
    cases q a <;> simp <;> omega
theorem order_nodup {l : List Nt} (hv : validS l = true) : (orderS l).Pairwise fun a b => a.1 ≠ b.1 := bw_nodup hv _ (pt_root (by decide)) (Nat.le_refl _)
/-- Each node is reached or lost. -/
theorem both_len {l : List Nt} (hv : validS l = true) : (orderS l).length + (lostS l).length = l.length := by
  have hs := (validS_iff.1 hv).2
  rw [lost_eq hs, List.length_map]
  have h1 : (orderS l).length = (l.filter fun x => !isLost l x).length := by
    refine Nat.le_antisymm (nd_len ((order_nodup hv).imp fun h e => h (by rw [e])) fun x hx => ?_) (nd_len (List.Pairwise.sublist List.filter_sublist ((srt_ne hs).imp fun h e => h (by rw [e]))) fun x hx => ?_)
    · obtain ⟨k1, k2⟩ := (order_mem hv).1 hx
      rw [List.mem_filter]
      refine ⟨k1, ?_⟩
      rw [Bool.not_eq_true', ← Bool.not_eq_true, lost_iff]
      exact fun h => h k2
    · rw [List.mem_filter, Bool.not_eq_true', ← Bool.not_eq_true, lost_iff] at hx
      exact (order_mem hv).2 ⟨hx.1, Classical.not_not.1 hx.2⟩
  rw [h1]
  have := filter_two (isLost l) l
  omega

theorem at_parts2 {α : Type} {p : List α} {i : Nat} (hi : i < p.length) : p = p.take i ++ p[i] :: p.drop (i + 1) := by rw [← List.drop_eq_getElem_cons hi, List.take_append_drop]
/-! ### A node more -/ 
def insA (q : Dt) (n : Nt) (l : List Nt) : List Nt := l.flatMap fun x => if x.1 = q then [x, n] else [x]
theorem insA_no {q : Dt} {n : Nt} {l : List Nt} (h : ∀ x ∈ l, x.1 ≠ q) : insA q n l = l := by
  induction l with
  | nil => rfl
  | cons a t ih =>
    have := ih fun x hx => h x (by simp [hx])
    unfold insA at this ⊢
    rw [List.flatMap_cons, if_neg (h a (by simp)), this]
    rfl
theorem insA_cons (q : Dt) (n x : Nt) (l : List Nt) : insA q n (x :: l) = x :: ((if x.1 = q then [n] else []) ++ insA q n l) := by
  unfold insA
  rw [List.flatMap_cons]
  split <;> rfl
theorem insA_app (q : Dt) (n : Nt) (l m : List Nt) : insA q n (l ++ m) = insA q n l ++ insA q n m := by
  unfold insA
  rw [List.flatMap_append]
section
variable {l : List Nt} {n : Nt}
theorem grow_child (hv : validS l = true) (hn : validN n = true) (hd : atS l n.1 = none) (ht : ∀ x ∈ l, x.2.2.1 < n.2.2.1) (e : Dt) : childS (setS l n) e = (if e = n.2.1 then [n] else []) ++ childS l e := by
  have hs := (validS_iff.1 hv).2
  refine (child_eq (srt_setS hs n) ?_ fun x => ?_).symm
  · unfold SrtB
    split
    · rw [List.singleton_append, List.pairwise_cons]
      refine ⟨fun c hc => before_iff.2 (.inl (ht c ((mem_child hs).1 hc).1)), srt_child hs e⟩
    · exact srt_child hs e
  · rw [List.mem_append, mem_child hs, mem_setS hs]
    constructor
    · rintro (h | ⟨h1, h2⟩)
      · split at h
        · rename_i he
          rw [List.mem_singleton] at h
          subst h
          exact ⟨.inl rfl, he.symm⟩
        · cases h
      · exact ⟨.inr ⟨h1, at_none.1 hd x h1⟩, h2⟩
    · rintro ⟨rfl | ⟨h1, h2⟩, h3⟩
      · left; rw [if_pos h3.symm]; simp
      · exact .inr ⟨h1, h3⟩
theorem grow_path (hv : validS l = true) (hd : atS l n.1 = none) : ∀ {p : List Dt} {d : Dt}, Pt l d p → Pt (setS l n) d p := by
  have hs := (validS_iff.1 hv).2
  intro p
  induction hk : p.length using Nat.strongRecOn generalizing p with
  | _ k ih =>
    intro d h
    rcases pt_inv h with ⟨hr, rfl⟩ | ⟨hr, x, q, h1, h2, rfl⟩
    · exact pt_root hr
    · obtain ⟨h3, rfl⟩ := at_some h1
      exact pt_step (srt_setS hs n) ((mem_setS hs).2 (.inr ⟨h3, at_none.1 hd x h3⟩)) hr (ih q.length (by rw [← hk]; simp) rfl h2)
theorem grow_below (hv : validS l = true) (hn : validN n = true) (hd : atS l n.1 = none) (hc : ∀ x ∈ l, x.2.1 ≠ n.1) (ht : ∀ x ∈ l, x.2.2.1 < n.2.2.1) : ∀ (k : Nat) {d : Dt} {p : List Dt}, Pt l d p → l.length + 1 ≤ k + p.length →
    Bw (setS l n) d = (if d = n.2.1 then [n] else []) ++ insA n.2.1 n (Bw l d)
  | 0, d, p, hp, hk => by have := pt_len hp; omega
  | k + 1, d, p, hp, hk => by
    have hs := (validS_iff.1 hv).2
    have hv2 : validS (setS l n) = true := by
      have h0 : (putN l n).2 = 0 := by unfold putN; rw [hd]
      have := put_valid hv hn h0
      rw [(put_yes h0).1] at this
      unfold upN at this
      rw [hd] at this
      exact this
    rw [bw_eq hv2 (grow_path hv hd hp), grow_child hv hn hd ht, List.flatMap_append, bw_eq hv hp]
    have e1 : ∀ c ∈ childS l d, (c :: Bw (setS l n) c.1) = insA n.2.1 n (c :: Bw l c.1) := fun c hcc => by
      rw [grow_below hv hn hd hc ht k (child_path hv hp hcc) (by simp; omega), insA_cons]
    have e2 : (childS l d).flatMap (fun c => c :: Bw (setS l n) c.1) = insA n.2.1 n ((childS l d).flatMap fun c => c :: Bw l c.1) := by
      unfold insA
      rw [List.flatMap_assoc]
      unfold List.flatMap
      rw [List.map_congr_left e1]
      rfl
    rw [e2]
    congr 1
    split
    · rename_i he
      have hp2 : Pt (setS l n) n.1 (p ++ [n.1]) := pt_step (srt_setS hs n) ((mem_setS hs).2 (.inl rfl)) (not_root hn) (by rw [← he]; exact grow_path hv hd hp)
      have h0 : childS (setS l n) n.1 = [] := by
        rw [grow_child hv hn hd ht, if_neg (fun e => (valid_vn.1 hn).2.2.1 e.symm)]
        rw [List.nil_append, List.eq_nil_iff_forall_not_mem]
        intro x hx
        exact hc x ((mem_child hs).1 hx).1 ((mem_child hs).1 hx).2
      rw [List.flatMap_cons, List.flatMap_nil, bw_eq hv2 hp2, h0]
      rfl
    · rfl
/-- A node more, later than all, follows directly on its parent. -/
theorem grow_order (hv : validS l = true) (hn : validN n = true) (hd : atS l n.1 = none) (hc : ∀ x ∈ l, x.2.1 ≠ n.1) (ht : ∀ x ∈ l, x.2.2.1 < n.2.2.1) (k : Nat) (hk : k ≤ (orderS l).length)
    (hp : n.2.1 = if h0 : k = 0 then (0, 0) else ((orderS l)[k - 1]'(by omega)).1) : orderS (setS l n) = (orderS l).take k ++ n :: (orderS l).drop k := by
  have h := grow_below hv hn hd hc ht _ (pt_root (l := l) (d := (0, 0)) (by decide)) (Nat.le_refl _)
  rw [show orderS (setS l n) = Bw (setS l n) (0, 0) from rfl, h, show Bw l (0, 0) = orderS l from rfl]
  have hr : ∀ x ∈ orderS l, x.1 ≠ (0, 0) := fun x hx e => by
    have := not_root ((validS_iff.1 hv).1 x ((order_mem hv).1 hx).1)
    rw [e] at this
    cases this
  by_cases h0 : k = 0
  · subst h0
    simp only [dite_true] at hp
    rw [hp, if_pos rfl, insA_no hr]
    simp
  · rw [dif_neg h0] at hp
    obtain ⟨x, hx⟩ : ∃ x, x = (orderS l)[k - 1]'(by omega) := ⟨_, rfl⟩
    rw [← hx] at hp
    have hmem : x ∈ orderS l := by rw [hx]; exact List.getElem_mem _
    rw [if_neg (fun e => hr x hmem (by rw [← hp]; exact e.symm)), List.nil_append]
    have hparts := at_parts2 (p := orderS l) (i := k - 1) (by omega)
    rw [← hx, show k - 1 + 1 = k by omega] at hparts
    have hnd := order_nodup hv
    rw [hparts, List.pairwise_append, List.pairwise_cons] at hnd
    conv => lhs; rw [hparts]
    rw [insA_app, insA_cons, if_pos hp.symm, insA_no (fun y hy => by rw [hp]; exact hnd.2.2 y hy x (by simp)), insA_no (fun y hy => by rw [hp]; exact (hnd.2.1.1 y hy).symm)]
    have e : (orderS l).take k = (orderS l).take (k - 1) ++ [x] := by
      have := List.take_add_one (l := orderS l) (i := k - 1)
      rw [show k - 1 + 1 = k by omega, List.getElem?_eq_getElem (by omega), ← hx] at this
      exact this
    rw [e]
    simp
end
end Go.Proofs.YtkcbekebleodaaaGreat.Wk
end

/-
  The order of the tree with depths; what is still to come; the paths, as a walk finds them.
-/
section
namespace Go.Proofs.YtkcbekebleodaaaGreat.Wk
set_option linter.unusedVariables false
open D Nd Qs

/-- A node with a depth. -/
abbrev At := Nat × Nt
def belowD (l : List Nt) : Nat → Dt → Nat → List At
  | 0, _, _ => []
  | n + 1, d, k => (childS l d).flatMap fun c => (k, c) :: belowD l n c.1 (k + 1)
def BD (l : List Nt) (d : Dt) (k : Nat) : List At := belowD l (l.length + 1) d k
theorem belowD_snd (l : List Nt) : ∀ (n : Nat) (d : Dt) (k : Nat), (belowD l n d k).map (·.2) = belowS l n d
  | 0, _, _ => rfl
  | n + 1, d, k => by
    rw [belowD, belowS, List.map_flatMap]
    unfold List.flatMap
    congr 1
    exact List.map_congr_left fun c _ => by rw [List.map_cons, belowD_snd l n c.1 (k + 1)]
theorem bd_snd (l : List Nt) (d : Dt) (k : Nat) : (BD l d k).map (·.2) = Bw l d := belowD_snd l _ d k
theorem bd_len (l : List Nt) (d : Dt) (k : Nat) : (BD l d k).length = (Bw l d).length := by rw [← bd_snd l d k, List.length_map]
theorem belowD_stable {l : List Nt} (hv : validS l = true) : ∀ (n m : Nat) (d : Dt) (k : Nat) (p : List Dt), Pt l d p → l.length + 1 ≤ n + p.length → l.length + 1 ≤ m + p.length → belowD l n d k = belowD l m d k
  | 0, m, d, k, p, hp, hn, hm => by have := pt_len hp; omega
  | n + 1, 0, d, k, p, hp, hn, hm => by have := pt_len hp; omega
  | n + 1, m + 1, d, k, p, hp, hn, hm => by
    rw [belowD, belowD]
    have e : ∀ c ∈ childS l d, (k, c) :: belowD l n c.1 (k + 1) = (k, c) :: belowD l m c.1 (k + 1) := fun c hc => by
      rw [belowD_stable hv n m c.1 (k + 1) (p ++ [c.1]) (child_path hv hp hc) (by simp; omega) (by simp; omega)]
    unfold List.flatMap
    rw [List.map_congr_left e]
theorem bd_eq {l : List Nt} (hv : validS l = true) {d : Dt} {p : List Dt} (hp : Pt l d p) (k : Nat) : BD l d k = (childS l d).flatMap fun c => (k, c) :: BD l c.1 (k + 1) := by
  have hl := pt_len hp
  rw [show BD l d k = belowD l (l.length + 1 + 1) d k from belowD_stable hv _ _ d k p hp (by omega) (by omega), belowD]
  rfl

/-! ### What is still to come -/
/-- All that is to come, of a list that begins with the next one. -/
def restS (l : List Nt) (t : List At) : List At := t.flatMap fun x => x :: BD l x.2.1 (x.1 + 1)
/-- The children of a dot, with a depth. -/
def kidsS (l : List Nt) (d : Dt) (k : Nat) : List At := (childS l d).map fun c => (k, c)
/-- All in the list are reached. -/
def Rch (l : List Nt) (t : List At) : Prop := ∀ x ∈ t, ∃ p, Pt l x.2.1 p ∧ x.1 < p.length
theorem rest_kids {l : List Nt} (hv : validS l = true) {d : Dt} {p : List Dt} (hp : Pt l d p) (k : Nat) : restS l (kidsS l d k) = BD l d k := by
  rw [bd_eq hv hp]
  unfold restS kidsS
  rw [List.flatMap_map]
theorem rest_step {l : List Nt} (hv : validS l = true) {x : At} {t : List At} (h : Rch l (x :: t)) : restS l (x :: t) = x :: restS l (kidsS l x.2.1 (x.1 + 1) ++ t) := by
  obtain ⟨p, hp, -⟩ := h x (by simp)
  unfold restS
  rw [List.flatMap_cons, List.flatMap_append, List.cons_append]
  congr 2
  exact (rest_kids hv hp _).symm
theorem rch_step {l : List Nt} (hv : validS l = true) {x : At} {t : List At} (h : Rch l (x :: t)) : Rch l (kidsS l x.2.1 (x.1 + 1) ++ t) := fun y hy => by
  rcases List.mem_append.1 hy with hy | hy
  · obtain ⟨p, hp, hl⟩ := h x (by simp)
    obtain ⟨c, hc, rfl⟩ := List.mem_map.1 hy
    exact ⟨_, child_path hv hp hc, by simp; omega⟩
  · exact h y (by simp [hy])
theorem rch_kids {l : List Nt} (hv : validS l = true) {d : Dt} {p : List Dt} (hp : Pt l d p) {k : Nat} (hk : k ≤ p.length) : Rch l (kidsS l d k) := fun y hy => by
  obtain ⟨c, hc, rfl⟩ := List.mem_map.1 hy
  exact ⟨_, child_path hv hp hc, by simp; omega⟩
theorem rest_len (l : List Nt) : ∀ t : List At, t.length ≤ (restS l t).length
  | [] => Nat.zero_le _
  | x :: t => by
    have := rest_len l t
    unfold restS at *
    rw [List.flatMap_cons]
    simp only [List.cons_append, List.length_cons, List.length_append]
    omega
theorem bw_len {l : List Nt} (hv : validS l = true) {d : Dt} {p : List Dt} (hp : Pt l d p) : (Bw l d).length ≤ l.length := by
  have h := nd_len (a := Bw l d) (b := l) ((bw_nodup hv (l.length + 1) hp (by omega)).imp fun h e => h (by rw [e])) fun x hx => (bw_path hv (l.length + 1) hp (by omega) x hx).1
  exact h

/-! ### Paths, as a walk finds them -/
theorem root_path (l : List Nt) : Pt l (0, 0) [] := pt_root (by decide)
/-- All nodes that are reached, with their depths. -/
def allD (l : List Nt) : List At := BD l (0, 0) 0
theorem all_snd (l : List Nt) : (allD l).map (·.2) = orderS l := bd_snd l _ _
end Go.Proofs.YtkcbekebleodaaaGreat.Wk
end

/-
  Visible nodes, plainly; a store in which nodes were killed has the same order.
-/
section
namespace Go.Proofs.YtkcbekebleodaaaGreat.Ix
set_option linter.unusedVariables false
open D Nd Qs Wk

/-! ### Nodes that differ in their runes only -/
def Like (g : Nt → Nt) : Prop := ∀ x, (g x).1 = x.1 ∧ (g x).2.1 = x.2.1 ∧ (g x).2.2.1 = x.2.2.1
theorem like_kill (dots : List Dt) : Like (killAt dots) := fun x => by unfold killAt; split <;> exact ⟨rfl, rfl, rfl⟩
section
variable {g : Nt → Nt} (hg : Like g)
include hg
theorem like_before (a b : Nt) : beforeN (g a) (g b) = beforeN a b := by
  obtain ⟨a1, a2, a3⟩ := hg a
  obtain ⟨b1, b2, b3⟩ := hg b
  unfold beforeN
  rw [a1, a3, b1, b3]
theorem like_ins (o : List Nt) (x : Nt) : insB (o.map g) (g x) = (insB o x).map g := by
  induction o with
  | nil => rfl
  | cons a t ih =>
    unfold insB at ih ⊢
    rw [List.map_cons, List.takeWhile_cons, List.dropWhile_cons, List.takeWhile_cons, List.dropWhile_cons, like_before hg]
    cases beforeN a x
    · simp
    · simp only [if_true, List.map_cons, List.cons_append]
      rw [ih]
theorem like_child (l : List Nt) (d : Dt) : childS (l.map g) d = (childS l d).map g := by
  have h : ∀ (t o : List Nt), (t.map g).foldl (childF d) (o.map g) = (t.foldl (childF d) o).map g := by
    intro t
    induction t with
    | nil => intro o; rfl
    | cons a t ih =>
      intro o
      rw [List.map_cons, List.foldl_cons, List.foldl_cons]
      have e : childF d (o.map g) (g a) = (childF d o a).map g := by
        unfold childF
        rw [(hg a).2.1]
        split
        · exact like_ins hg o a
        · rfl
      rw [e, ih]
  exact h l []
theorem like_below (l : List Nt) : ∀ (n : Nat) (d : Dt), belowS (l.map g) n d = (belowS l n d).map g
  | 0, d => rfl
  | n + 1, d => by
    rw [belowS, belowS, like_child hg, List.flatMap_map, List.map_flatMap]
    unfold List.flatMap
    congr 1
    refine List.map_congr_left fun c _ => ?_
    rw [(hg c).1, like_below l n c.1]
    rfl
theorem like_order (l : List Nt) : orderS (l.map g) = (orderS l).map g := by
  unfold orderS Bw
  rw [List.length_map]
  exact like_below hg l _ _
end

/-! ### Visible nodes -/
def aliveL (l : List Nt) : List Nt := l.filter fun n => !deadN n
def visS (l : List Nt) : List Nt := aliveL (orderS l)
def runesS (l : List Nt) : List Int := (visS l).map fun n => n.2.2.2
theorem vis_mem {l : List Nt} (hv : validS l = true) {x : Nt} (h : x ∈ visS l) : x ∈ l ∧ x.2.2.2 ≠ 0 ∧ R.vld x.2.2.2 = true := by
  unfold visS aliveL at h
  rw [List.mem_filter] at h
  have hx := ((order_mem hv).1 h.1).1
  have h0 : x.2.2.2 ≠ 0 := by have := h.2; unfold deadN at this; simpa using this
  exact ⟨hx, h0, ((valid_vn.1 ((validS_iff.1 hv).1 x hx)).2.2.2.2.2).resolve_left h0⟩
theorem vis_nodup {l : List Nt} (hv : validS l = true) : (visS l).Pairwise fun a b => a.1 ≠ b.1 := List.Pairwise.sublist List.filter_sublist (order_nodup hv)
theorem vis_len {l : List Nt} (hv : validS l = true) : (visS l).length ≤ l.length := by
  have h1 : (visS l).length ≤ (orderS l).length := List.length_filter_le _ _
  have := both_len hv
  omega
end Go.Proofs.YtkcbekebleodaaaGreat.Ix
end

/-
  Layer 13, plainly: flaws, well-formed lists, the whole part of a store.
-/
section
namespace Go.Proofs.YtkcbekebleodaaaGreat.Fo
set_option linter.unusedVariables false
open D Nd Qs Wk

/-- A node whose parent is the root, or there and earlier. -/
def okN (l : List Nt) (n : Nt) : Bool := rootR n.2.1 || (match atS l n.2.1 with | none => false | some p => decide (p.2.2.1 < n.2.2.1))
/-- The flaw of a node of a list, of which the one before it is p. -/
def flawP (l : List Nt) (p : Option Nt) (n : Nt) : Int :=
  if validN n = false then 1 else if (match p with | none => false | some q => !less q.1 n.1) = true then 2 else if rootR n.2.1 = true then 0 else
  match atS l n.2.1 with | none => 3 | some q => if n.2.2.1 ≤ q.2.2.1 then 4 else 0
def flawN (l : List Nt) (i : Nat) : Int := match l[i]? with | none => 0 | some n => flawP l (if i = 0 then none else l[i - 1]?) n
def wellS (l : List Nt) : Bool := validS l && l.all (okN l)
theorem flaw_store {l : List Nt} (hv : validS l = true) {i : Nat} (hi : i < l.length) : flawN l i = if rootR l[i].2.1 = true then 0 else match atS l l[i].2.1 with | none => 3 | some q => if l[i].2.2.1 ≤ q.2.2.1 then 4 else 0 := by
  obtain ⟨h1, hs⟩ := validS_iff.1 hv
  unfold flawN
  rw [List.getElem?_eq_getElem hi]
  simp only
  unfold flawP
  rw [if_neg (by rw [h1 _ (List.getElem_mem hi)]; decide), if_neg]
  by_cases h0 : i = 0
  · rw [if_pos h0]; simp
  · rw [if_neg h0, List.getElem?_eq_getElem (by omega)]
    have h2 : less l[i - 1].1 l[i].1 = true := List.pairwise_iff_getElem.1 hs (i - 1) i (by omega) hi (by omega)
    simp [h2]
theorem flaw_ok {l : List Nt} (hv : validS l = true) {i : Nat} (hi : i < l.length) : flawN l i = 0 ↔ okN l l[i] = true := by
  rw [flaw_store hv hi]
  unfold okN
  cases hr : rootR l[i].2.1
  · simp only [Bool.false_eq_true, if_false, Bool.false_or]
    rcases ha : atS l l[i].2.1 with _ | q
    · simp
    · simp only
      rw [decide_eq_true_iff]
      split <;> constructor <;> intro h <;> first | omega | rfl
  · simp
theorem well_iff {l : List Nt} : wellS l = true ↔ ∀ i, i < l.length → flawN l i = 0 := by
  constructor
  · intro h i hi
    unfold wellS at h
    rw [Bool.and_eq_true, List.all_eq_true] at h
    exact (flaw_ok h.1 hi).2 (h.2 _ (List.getElem_mem hi))
  · intro h
    have hv : validS l = true := by
      refine validS_at (fun i hi => ?_) (fun i hi => ?_)
      · have h1 := h i hi
        unfold flawN flawP at h1
        rw [List.getElem?_eq_getElem hi] at h1
        simp only at h1
        cases hn : validN l[i]
        · rw [if_pos hn] at h1; cases h1
        · rfl
      · have h1 := h (i + 1) hi
        have e : flawN l (i + 1) = flawP l (some (l[i]'(by omega))) l[i + 1] := by
          unfold flawN
          rw [List.getElem?_eq_getElem hi]
          simp only [Nat.add_one_ne_zero, if_false, Nat.add_sub_cancel]
          rw [List.getElem?_eq_getElem (by omega)]
        rw [e] at h1
        unfold flawP at h1
        cases hn : validN l[i + 1]
        · rw [if_pos hn] at h1; cases h1
        · rw [if_neg (by rw [hn]; decide)] at h1
          cases hl : less (l[i]'(by omega)).1 l[i + 1].1
          · rw [if_pos (by simp only [hl]; rfl)] at h1
            cases h1
          · rfl
    unfold wellS
    rw [hv, Bool.true_and, List.all_eq_true]
    intro x hx
    obtain ⟨i, hi, rfl⟩ := List.mem_iff_getElem.1 hx
    exact (flaw_ok hv hi).1 (h i hi)
theorem well_valid {l : List Nt} (h : wellS l = true) : validS l = true := by
  unfold wellS at h
  exact (Bool.and_eq_true _ _ ▸ h).1
end Go.Proofs.YtkcbekebleodaaaGreat.Fo
end

/-
  Layer 15, plainly: chains of new nodes, killed parts, and what becomes of the order and of the text.
-/
section
namespace Go.Proofs.YtkcbekebleodaaaGreat.Ed
set_option linter.unusedVariables false
open D Nd Qs Wk Ix Jn Fo

/-- Runes that hang one below the other, from a dot, a parent and a time on. -/
def chainN : Dt → Dt → Int → List Int → List Nt
  | _, _, _, [] => []
  | d, p, t, r :: rs => (d, p, t, r) :: chainN (d.1, d.2 + 1) d (t + 1) rs
theorem chain_len : ∀ (rs : List Int) (d p : Dt) (t : Int), (chainN d p t rs).length = rs.length
  | [], _, _, _ => rfl
  | r :: rs, d, p, t => by rw [chainN, List.length_cons, List.length_cons, chain_len rs]
theorem chain_runes : ∀ (rs : List Int) (d p : Dt) (t : Int), (chainN d p t rs).map (fun n => n.2.2.2) = rs
  | [], _, _, _ => rfl
  | r :: rs, d, p, t => by rw [chainN, List.map_cons, chain_runes rs]
theorem chain_alive : ∀ (rs : List Int) (d p : Dt) (t : Int), (∀ r ∈ rs, r ≠ 0) → aliveL (chainN d p t rs) = chainN d p t rs
  | [], _, _, _, _ => rfl
  | r :: rs, d, p, t, h => by
    have h1 := chain_alive rs (d.1, d.2 + 1) d (t + 1) fun x hx => h x (by simp [hx])
    unfold aliveL at h1 ⊢
    rw [chainN, List.filter_cons, if_pos (by have := h r (by simp); simp [deadN, this]), h1]
/-- What new nodes ask of the state that they are put to. -/
structure Fresh (l : List Nt) (d p : Dt) (t : Int) (n : Nat) : Prop where
  dv : ∀ i : Nat, i < n → validR (d.1, d.2 + (i : Int)) = true
  new : ∀ i : Nat, i < n → atS l (d.1, d.2 + (i : Int)) = none
  kid : ∀ x ∈ l, ∀ i : Nat, i < n → x.2.1 ≠ (d.1, d.2 + (i : Int))
  late : ∀ x ∈ l, x.2.2.1 < t
  t1 : 1 ≤ t
  t2 : t + (n : Int) ≤ 4611686018427387905
  par : p = (0, 0) ∨ ∃ x ∈ l, x.1 = p
theorem root_of {d : Dt} (h : validR d = true) : d ≠ (0, 0) := by
  rintro rfl
  cases h
theorem fresh_one {l : List Nt} (hv : validS l = true) {d p : Dt} {t : Int} {n : Nat} (h : Fresh l d p t (n + 1)) {r : Int} (hr : R.vld r = true) : validN (d, p, t, r) = true ∧ atS l d = none := by
  have h0 : validR d = true := by have := h.dv 0 (by omega); simpa using this
  have hn : atS l d = none := by have := h.new 0 (by omega); simpa using this
  refine ⟨valid_vn.2 ⟨h0, ?_, ?_, h.t1, by have := h.t2; push_cast at this; show t ≤ _; omega, .inr hr⟩, hn⟩
  · rcases h.par with e | ⟨x, hx, e⟩
    · right
      show rootR p = true
      rw [e]; rfl
    · left
      show validR p = true
      rw [← e]
      exact (valid_vn.1 ((validS_iff.1 hv).1 x hx)).1
  · show p ≠ d
    rcases h.par with e | ⟨x, hx, e⟩
    · rw [e]; exact (root_of h0).symm
    · intro e2
      exact at_none.1 hn x hx (e.trans e2)
theorem fresh_next {l : List Nt} (hv : validS l = true) {d p : Dt} {t : Int} {n : Nat} (h : Fresh l d p t (n + 1)) (r : Int) : Fresh (setS l (d, p, t, r)) (d.1, d.2 + 1) d (t + 1) n := by
  have hs := (validS_iff.1 hv).2
  have h0 : validR d = true := by have := h.dv 0 (by omega); simpa using this
  have e : ∀ i : Nat, ((d.1, d.2 + 1 + (i : Int)) : Dt) = (d.1, d.2 + ((i + 1 : Nat) : Int)) := fun i => by
    refine Prod.ext rfl ?_
    show d.2 + 1 + (i : Int) = d.2 + ((i + 1 : Nat) : Int)
    push_cast
    omega
  have hne : ∀ i : Nat, ((d.1, d.2 + ((i + 1 : Nat) : Int)) : Dt) ≠ d := fun i e2 => by
    have := congrArg Prod.snd e2
    simp only at this
    omega
  refine ⟨fun i hi => ?_, fun i hi => ?_, fun x hx i hi => ?_, fun x hx => ?_, by have := h.t1; omega, by have := h.t2; push_cast at this; omega, .inr ⟨_, (mem_setS hs).2 (.inl rfl), rfl⟩⟩
  · show validR (d.1, d.2 + 1 + (i : Int)) = true
    rw [e]; exact h.dv (i + 1) (by omega)
  · show atS _ (d.1, d.2 + 1 + (i : Int)) = none
    rw [e, at_setS hs, if_neg (hne i)]
    exact h.new (i + 1) (by omega)
  · show x.2.1 ≠ (d.1, d.2 + 1 + (i : Int))
    rw [e]
    rcases (mem_setS hs).1 hx with rfl | ⟨hx, -⟩
    · show p ≠ _
      rcases h.par with e2 | ⟨y, hy, e2⟩
      · rw [e2]; exact (root_of (h.dv (i + 1) (by omega))).symm
      · rw [← e2]; exact at_none.1 (h.new (i + 1) (by omega)) y hy
    · exact h.kid x hx (i + 1) (by omega)
  · rcases (mem_setS hs).1 hx with rfl | ⟨hx, -⟩
    · show t < t + 1; omega
    · have := h.late x hx; omega
theorem put_new {l : List Nt} {n : Nt} (h : atS l n.1 = none) : putN l n = (setS l n, 0) := by
  unfold putN; rw [h]
theorem setS_valid {l : List Nt} (hv : validS l = true) {n : Nt} (hn : validN n = true) (h : atS l n.1 = none) : validS (setS l n) = true := by
  have h1 := put_valid hv hn (by rw [put_new h])
  rw [put_new h] at h1
  exact h1
/-- A chain follows directly on its parent, and nothing else changes in the order. -/
theorem chain_order : ∀ (rs : List Int) (l : List Nt) (d p : Dt) (t : Int) (k : Nat), validS l = true → Fresh l d p t rs.length → (∀ r ∈ rs, R.vld r = true) → (hk : k ≤ (orderS l).length) →
    (p = if h0 : k = 0 then (0, 0) else ((orderS l)[k - 1]'(by omega)).1) →
    validS (foldN (chainN d p t rs) l) = true ∧ orderS (foldN (chainN d p t rs) l) = (orderS l).take k ++ chainN d p t rs ++ (orderS l).drop k
  | [], l, d, p, t, k, hv, _, _, _, _ => by
    refine ⟨hv, ?_⟩
    show orderS l = _
    rw [chainN, List.append_nil, List.take_append_drop]
  | r :: rs, l, d, p, t, k, hv, hf, hr, hk, hp => by
    obtain ⟨hn, hat⟩ := fresh_one hv hf (hr r (by simp))
    have hs2 := setS_valid hv hn hat
    have hkid : ∀ x ∈ l, x.2.1 ≠ d := fun x hx => by have := hf.kid x hx 0 (by simp); simpa using this
    have ho := grow_order hv hn hat hkid hf.late k hk hp
    have hk2 : k + 1 ≤ (orderS (setS l (d, p, t, r))).length := by
      rw [ho]
      simp only [List.length_append, List.length_take, List.length_cons, List.length_drop]
      omega
    have hpn : d = if h0 : k + 1 = 0 then (0, 0) else ((orderS (setS l (d, p, t, r)))[k + 1 - 1]'(by omega)).1 := by
      rw [dif_neg (by omega)]
      simp only [ho, Nat.add_sub_cancel]
      have hmin : ((orderS l).take k).length = k := by rw [List.length_take]; omega
      rw [List.getElem_append_right (by omega)]
      simp only [hmin, Nat.sub_self, List.getElem_cons_zero]
    have ih := chain_order rs (setS l (d, p, t, r)) (d.1, d.2 + 1) d (t + 1) (k + 1) hs2 (fresh_next hv hf r) (fun x hx => hr x (by simp [hx])) hk2 hpn
    have e : foldN (chainN d p t (r :: rs)) l = foldN (chainN (d.1, d.2 + 1) d (t + 1) rs) (setS l (d, p, t, r)) := by
      rw [chainN]
      unfold foldN
      rw [List.foldl_cons, put_new hat]
    rw [e]
    refine ⟨ih.1, ?_⟩
    rw [ih.2, ho, chainN]
    have hlen : ((orderS l).take k).length = k := by rw [List.length_take]; omega
    have e1 : ((orderS l).take k ++ (d, p, t, r) :: (orderS l).drop k).take (k + 1) = (orderS l).take k ++ [(d, p, t, r)] := by
      rw [List.take_append, hlen, List.take_of_length_le (by omega), show k + 1 - k = 1 by omega]
      rfl
    have e2 : ((orderS l).take k ++ (d, p, t, r) :: (orderS l).drop k).drop (k + 1) = (orderS l).drop k := by
      rw [List.drop_append, hlen, List.drop_of_length_le (by omega), show k + 1 - k = 1 by omega]
      rfl
    rw [e1, e2]
    simp
/-- Adding a chain keeps a state well-formed. -/
theorem well_set {l : List Nt} (hw : wellS l = true) {n : Nt} (hn : validN n = true) (h : atS l n.1 = none) (hp : rootR n.2.1 = true ∨ ∃ x ∈ l, x.1 = n.2.1 ∧ x.2.2.1 < n.2.2.1) : wellS (setS l n) = true := by
  have hv := well_valid hw
  have hs := (validS_iff.1 hv).2
  have hv2 := setS_valid hv hn h
  have hs2 := (validS_iff.1 hv2).2
  unfold wellS at hw ⊢
  rw [Bool.and_eq_true, List.all_eq_true] at hw
  rw [hv2, Bool.true_and, List.all_eq_true]
  intro x hx
  have key : ∀ y, y ∈ l → atS (setS l n) y.1 = some y := fun y hy => at_mem hs2 ((mem_setS hs).2 (.inr ⟨hy, at_none.1 h y hy⟩))
  rcases (mem_setS hs).1 hx with rfl | ⟨hx, -⟩
  · unfold okN
    rcases hp with hp | ⟨y, hy, e, ht⟩
    · rw [hp]; rfl
    · rw [← e, key y hy]
      simp [ht]
  · have h1 := hw.2 x hx
    unfold okN at h1 ⊢
    cases hr : rootR x.2.1
    · rw [hr, Bool.false_or] at h1
      rcases ha : atS l x.2.1 with _ | y
      · rw [ha] at h1; cases h1
      · rw [ha] at h1
        obtain ⟨hy, e⟩ := at_some ha
        rw [← e, key y hy]
        simpa using h1
    · rfl
theorem chain_well : ∀ (rs : List Int) (l : List Nt) (d p : Dt) (t : Int), wellS l = true → Fresh l d p t rs.length → (∀ r ∈ rs, R.vld r = true) → wellS (foldN (chainN d p t rs) l) = true
  | [], l, d, p, t, hw, _, _ => hw
  | r :: rs, l, d, p, t, hw, hf, hr => by
    have hv := well_valid hw
    obtain ⟨hn, hat⟩ := fresh_one hv hf (hr r (by simp))
    have hw2 : wellS (setS l (d, p, t, r)) = true := well_set hw hn hat (by
      rcases hf.par with e | ⟨x, hx, e⟩
      · left; show rootR p = true; rw [e]; rfl
      · right; exact ⟨x, hx, e, hf.late x hx⟩)
    have e : foldN (chainN d p t (r :: rs)) l = foldN (chainN (d.1, d.2 + 1) d (t + 1) rs) (setS l (d, p, t, r)) := by
      rw [chainN]
      unfold foldN
      rw [List.foldl_cons, put_new hat]
    rw [e]
    exact chain_well rs _ _ _ _ hw2 (fresh_next hv hf r) fun x hx => hr x (by simp [hx])
/-- Killed nodes: the visible ones that are left. -/
theorem vis_kills {l : List Nt} (dots : List Dt) : visS (l.map (killAt dots)) = (visS l).filter fun n => !decide (n.1 ∈ dots) := by
  unfold visS aliveL
  rw [like_order (like_kill dots), List.filter_map, List.filter_filter]
  have : ∀ o : List Nt, List.map (killAt dots) (List.filter ((fun n => !deadN n) ∘ killAt dots) o) = List.filter (fun a => (!decide (a.1 ∈ dots)) && !deadN a) o := by
    intro o
    induction o with
    | nil => rfl
    | cons a t ih =>
      by_cases h : a.1 ∈ dots
      · have e : killAt dots a = killN a := by unfold killAt; rw [if_pos h]
        rw [List.filter_cons, List.filter_cons, if_neg (by simp [e, deadN, killN]), if_neg (by simp [h]), ih]
      · have e : killAt dots a = a := by unfold killAt; rw [if_neg h]
        rw [List.filter_cons, List.filter_cons]
        by_cases hd : deadN a = true
        · rw [if_neg (by simp [e, hd]), if_neg (by simp [hd]), ih]
        · rw [if_pos (by simp [e, hd]), if_pos (by simp [h, hd]), List.map_cons, e, ih]
  rw [this]
theorem well_kill {l : List Nt} (hw : wellS l = true) (dots : List Dt) : wellS (l.map (killAt dots)) = true := by
  have hv := well_valid hw
  have hv2 := kill_valid hv dots
  unfold wellS at hw ⊢
  rw [Bool.and_eq_true, List.all_eq_true] at hw
  rw [hv2, Bool.true_and, List.all_eq_true]
  intro x hx
  obtain ⟨y, hy, rfl⟩ := List.mem_map.1 hx
  have h1 := hw.2 y hy
  obtain ⟨l1, l2, l3⟩ := like_kill dots y
  unfold okN at h1 ⊢
  rw [l2, l3]
  cases hr : rootR y.2.1
  · rw [hr, Bool.false_or] at h1
    rcases ha : atS l y.2.1 with _ | p
    · rw [ha] at h1; cases h1
    · rw [ha] at h1
      obtain ⟨hp, e⟩ := at_some ha
      have h2 : killAt dots p ∈ l.map (killAt dots) := List.mem_map.2 ⟨p, hp, rfl⟩
      have h3 := at_mem (validS_iff.1 hv2).2 h2
      obtain ⟨p1, p2, p3⟩ := like_kill dots p
      rw [p1, e] at h3
      rw [h3]
      simp only [p3, Bool.false_or]
      exact h1
  · rfl
/-- The part of a list with different dots from an index on. -/
theorem filter_part {v : List Nt} (hn : v.Pairwise fun a b => a.1 ≠ b.1) (i n : Nat) : (v.filter fun x => !decide (x.1 ∈ ((v.drop i).take n).map (·.1))) = v.take i ++ v.drop (i + n) := by
  have e : v.take i ++ ((v.drop i).take n ++ v.drop (i + n)) = v := by
    rw [← List.drop_drop, List.take_append_drop, List.take_append_drop]
  generalize v.take i = A at *
  generalize (v.drop i).take n = M at *
  generalize v.drop (i + n) = C at *
  subst e
  rw [List.pairwise_append, List.pairwise_append] at hn
  obtain ⟨-, ⟨-, -, h1⟩, h2⟩ := hn
  rw [List.filter_append, List.filter_append]
  have f1 : (A.filter fun x => !decide (x.1 ∈ M.map (·.1))) = A := by
    rw [List.filter_eq_self]
    intro x hx
    simp only [Bool.not_eq_true', decide_eq_false_iff_not, List.mem_map, not_exists, not_and]
    intro y hy e2
    exact h2 x hx y (by simp [hy]) e2.symm
  have f2 : (M.filter fun x => !decide (x.1 ∈ M.map (·.1))) = [] := by
    rw [List.filter_eq_nil_iff]
    intro x hx h
    have : x.1 ∈ M.map (·.1) := List.mem_map.2 ⟨x, hx, rfl⟩
    simp [this] at h
  have f3 : (C.filter fun x => !decide (x.1 ∈ M.map (·.1))) = C := by
    rw [List.filter_eq_self]
    intro x hx
    simp only [Bool.not_eq_true', decide_eq_false_iff_not, List.mem_map, not_exists, not_and]
    intro y hy e2
    exact h1 y hy x hx e2
  rw [f1, f2, f3, List.nil_append]
/-- Where the visible node before an index stands in the order. -/
theorem vis_split {o : List Nt} : ∀ {i : Nat}, (hi : i < (aliveL o).length) → ∃ k, ∃ hk : k < o.length, o[k] = (aliveL o)[i] ∧ aliveL (o.take (k + 1)) = (aliveL o).take (i + 1) ∧ aliveL (o.drop (k + 1)) = (aliveL o).drop (i + 1) := by
  induction o with
  | nil => intro i hi; simp [aliveL] at hi
  | cons a t ih =>
    intro i hi
    by_cases h : deadN a = true
    · have e : aliveL (a :: t) = aliveL t := by unfold aliveL; rw [List.filter_cons, if_neg (by simp [h])]
      have hi2 : i < (aliveL t).length := by rw [← e]; exact hi
      obtain ⟨k, hk, h1, h2, h3⟩ := ih hi2
      refine ⟨k + 1, by simp; omega, ?_, ?_, ?_⟩
      · simp only [List.getElem_cons_succ, h1, e]
      · rw [List.take_succ_cons, e, ← h2]
        unfold aliveL; rw [List.filter_cons, if_neg (by simp [h])]
      · rw [List.drop_succ_cons, e, h3]
    · have e : aliveL (a :: t) = a :: aliveL t := by unfold aliveL; rw [List.filter_cons, if_pos (by simp [h])]
      rcases i with _ | i
      · refine ⟨0, by simp, ?_, ?_, ?_⟩
        · simp only [List.getElem_cons_zero, e]
        · rw [List.take_succ_cons, List.take_zero, e, List.take_succ_cons, List.take_zero]
          unfold aliveL; rw [List.filter_cons, if_pos (by simp [h])]; rfl
        · rw [List.drop_succ_cons, List.drop_zero, e, List.drop_succ_cons, List.drop_zero]
      · have hi2 : i < (aliveL t).length := by rw [e] at hi; simpa using hi
        obtain ⟨k, hk, h1, h2, h3⟩ := ih hi2
        refine ⟨k + 1, by simp; omega, ?_, ?_, ?_⟩
        · simp only [List.getElem_cons_succ, h1, e]
        · rw [List.take_succ_cons, e, List.take_succ_cons, ← h2]
          unfold aliveL; rw [List.filter_cons, if_pos (by simp [h])]
        · rw [List.drop_succ_cons, e, List.drop_succ_cons, h3]
/-- The visible nodes of a state to which a chain was added behind its visible node with an index (or before all of them). -/
theorem chain_vis {l : List Nt} (hv : validS l = true) {d p : Dt} {t : Int} {rs : List Int} (hf : Fresh l d p t rs.length) (hr : ∀ r ∈ rs, R.vld r = true) (i : Nat) (hi : i ≤ (visS l).length)
    (hp : p = if h0 : i = 0 then (0, 0) else ((visS l)[i - 1]'(by omega)).1) :
    visS (foldN (chainN d p t rs) l) = (visS l).take i ++ chainN d p t rs ++ (visS l).drop i := by
  have hr0 : ∀ r ∈ rs, r ≠ 0 := fun r h e => by have := hr r h; rw [e] at this; cases this
  obtain ⟨k, hk, h1, h2, h3⟩ : ∃ k, ∃ hk : k ≤ (orderS l).length, (p = if h0 : k = 0 then (0, 0) else ((orderS l)[k - 1]'(by omega)).1) ∧ aliveL ((orderS l).take k) = (visS l).take i ∧ aliveL ((orderS l).drop k) = (visS l).drop i := by
    rcases i with _ | i
    · refine ⟨0, Nat.zero_le _, ?_, rfl, rfl⟩
      rw [hp]; rfl
    · obtain ⟨k, hk, h1, h2, h3⟩ := vis_split (o := orderS l) (i := i) (by show i < (visS l).length; omega)
      refine ⟨k + 1, by omega, ?_, h2, h3⟩
      rw [hp, dif_neg (by omega), dif_neg (by omega)]
      simp only [Nat.add_sub_cancel, h1]
      rfl
  have ho := (chain_order rs l d p t k hv hf hr hk h1).2
  unfold visS
  rw [ho]
  have ha : ∀ x y : List Nt, aliveL (x ++ y) = aliveL x ++ aliveL y := fun x y => List.filter_append ..
  rw [ha, ha, h2, h3, chain_alive rs d p t hr0]
  rfl
end Go.Proofs.YtkcbekebleodaaaGreat.Ed
end

/-
  Layer 15, plainly: the delta of an edit, what joining it does, two edits beside each other; the tree from a stack.
-/
section
namespace Go.Proofs.YtkcbekebleodaaaGreat.Ed
set_option linter.unusedVariables false
open D Nd Qs Wk Ix Jn Fo

/-! ### The tree from a stack -/
def restW (l t : List Nt) : List Nt := t.flatMap fun x => x :: Bw l x.1
def RchW (l t : List Nt) : Prop := ∀ x ∈ t, ∃ p, Pt l x.1 p
theorem rootW_path (l : List Nt) : Pt l (0, 0) [] := pt_root (by decide)
theorem restW_root {l : List Nt} (hv : validS l = true) : restW l (childS l (0, 0)) = orderS l := (bw_eq hv (rootW_path l)).symm
theorem restW_step {l : List Nt} (hv : validS l = true) {x : Nt} {t : List Nt} (h : RchW l (x :: t)) : restW l (x :: t) = x :: restW l (childS l x.1 ++ t) := by
  obtain ⟨p, hp⟩ := h x (by simp)
  unfold restW
  rw [List.flatMap_cons, List.flatMap_append, ← bw_eq hv hp, List.cons_append]
theorem rchW_root {l : List Nt} (hv : validS l = true) : RchW l (childS l (0, 0)) := fun x hx => ⟨_, child_path hv (rootW_path l) hx⟩
theorem rchW_step {l : List Nt} (hv : validS l = true) {x : Nt} {t : List Nt} (h : RchW l (x :: t)) : RchW l (childS l x.1 ++ t) := fun y hy => by
  rcases List.mem_append.1 hy with hy | hy
  · obtain ⟨p, hp⟩ := h x (by simp)
    exact ⟨_, child_path hv hp hy⟩
  · exact h y (by simp [hy])
theorem restW_len (l : List Nt) : ∀ t : List Nt, t.length ≤ (restW l t).length
  | [] => Nat.le_refl _
  | x :: t => by
    have := restW_len l t
    unfold restW at this ⊢
    rw [List.flatMap_cons, List.length_append, List.length_cons, List.length_cons]
    omega

/-! ### The greatest time -/
theorem time_fold (l : List Nt) : ∀ m : Int, m ≤ l.foldl (fun m n => if m < n.2.2.1 then n.2.2.1 else m) m ∧ (∀ x ∈ l, x.2.2.1 ≤ l.foldl (fun m n => if m < n.2.2.1 then n.2.2.1 else m) m) ∧ ∀ B : Int, m ≤ B → (∀ x ∈ l, x.2.2.1 ≤ B) → l.foldl (fun m n => if m < n.2.2.1 then n.2.2.1 else m) m ≤ B := by
  induction l with
  | nil => exact fun m => ⟨Int.le_refl _, by simp, fun B h _ => h⟩
  | cons a t ih =>
    intro m
    rw [List.foldl_cons]
    obtain ⟨h1, h2, h3⟩ := ih (if m < a.2.2.1 then a.2.2.1 else m)
    have hm : m ≤ (if m < a.2.2.1 then a.2.2.1 else m) ∧ a.2.2.1 ≤ (if m < a.2.2.1 then a.2.2.1 else m) := by split <;> omega
    refine ⟨Int.le_trans hm.1 h1, fun x hx => ?_, fun B hB hx => h3 B ?_ fun x h => hx x (by simp [h])⟩
    · rcases List.mem_cons.1 hx with rfl | hx
      · exact Int.le_trans hm.2 h1
      · exact h2 x hx
    · split
      · exact hx a (by simp)
      · exact hB
theorem time_le {l : List Nt} {x : Nt} (h : x ∈ l) : x.2.2.1 ≤ timeS l := (time_fold l 0).2.1 x h
theorem time_pos (l : List Nt) : 0 ≤ timeS l := (time_fold l 0).1
theorem time_max {l : List Nt} {B : Int} (h0 : 0 ≤ B) (h : ∀ x ∈ l, x.2.2.1 ≤ B) : timeS l ≤ B := (time_fold l 0).2.2 B h0 h

/-! ### Chains -/
theorem chain_mem : ∀ (rs : List Int) (d p : Dt) (t : Int) (z : Nt), z ∈ chainN d p t rs → ∃ i : Nat, i < rs.length ∧ z.1 = (d.1, d.2 + (i : Int)) ∧ z.2.2.1 = t + (i : Int) ∧ z.2.2.2 ∈ rs
  | [], _, _, _, z, h => by cases h
  | r :: rs, d, p, t, z, h => by
    rw [chainN] at h
    rcases List.mem_cons.1 h with rfl | h
    · exact ⟨0, by simp, by simp, by simp, by simp⟩
    · obtain ⟨i, h1, h2, h3, h4⟩ := chain_mem rs _ _ _ z h
      refine ⟨i + 1, by simpa using h1, ?_, ?_, by simp [h4]⟩
      · rw [h2]
        refine Prod.ext rfl ?_
        show d.2 + 1 + (i : Int) = d.2 + ((i + 1 : Nat) : Int)
        push_cast
        omega
      · rw [h3]
        push_cast
        omega
theorem chain_srt : ∀ (rs : List Int) (d p : Dt) (t : Int), SrtN (chainN d p t rs)
  | [], _, _, _ => List.Pairwise.nil
  | r :: rs, d, p, t => by
    rw [chainN]
    refine List.pairwise_cons.2 ⟨fun z hz => ?_, chain_srt rs _ _ _⟩
    obtain ⟨i, -, h, -⟩ := chain_mem rs _ _ _ z hz
    rw [h, less_iff]
    left
    show d.2 < d.2 + 1 + (i : Int)
    omega
theorem chain_valid : ∀ (rs : List Int) (l : List Nt) (d p : Dt) (t : Int), validS l = true → Fresh l d p t rs.length → (∀ r ∈ rs, R.vld r = true) → ∀ z ∈ chainN d p t rs, validN z = true
  | [], _, _, _, _, _, _, _, z, h => by cases h
  | r :: rs, l, d, p, t, hv, hf, hr, z, h => by
    obtain ⟨hn, hat⟩ := fresh_one hv hf (hr r (by simp))
    rw [chainN] at h
    rcases List.mem_cons.1 h with rfl | h
    · exact hn
    · exact chain_valid rs _ _ _ _ (setS_valid hv hn hat) (fresh_next hv hf r) (fun x hx => hr x (by simp [hx])) z h

/-! ### The delta of an edit -/
def killsS (l : List Nt) (i n : Nat) : List Nt := (((visS l).drop i).take n).map killN
def kdots (l : List Nt) (i n : Nat) : List Dt := (((visS l).drop i).take n).map (·.1)
def parS (l : List Nt) (i : Nat) : Dt := if i = 0 then (0, 0) else match (visS l)[i - 1]? with | none => (0, 0) | some x => x.1
def chainS (l : List Nt) (d : Dt) (i : Nat) (rs : List Int) : List Nt := chainN d (parS l i) (timeS l + 1) rs
def partsS (l : List Nt) (d : Dt) (i n : Nat) (rs : List Int) : List Nt := killsS l i n ++ chainS l d i rs
def deltaS (l : List Nt) (d : Dt) (i n : Nat) (rs : List Int) : List Nt := foldN (partsS l d i n rs) []
/-- An edit that can be made. -/
structure Ok (l : List Nt) (d : Dt) (i n : Nat) (rs : List Int) : Prop where
  w : wellS l = true
  dv : validR d = true
  i : i + n ≤ (visS l).length
  r : ∀ r ∈ rs, R.vld r = true
  c : d.2 + (rs.length : Int) ≤ 4294967296
  t : timeS l + (rs.length : Int) ≤ 4611686018427387904
  new : ∀ k : Nat, k < rs.length → atS l (d.1, d.2 + (k : Int)) = none
section
variable {l : List Nt} {d : Dt} {i n : Nat} {rs : List Int}
theorem Ok.v (h : Ok l d i n rs) : validS l = true := well_valid h.w
theorem Ok.dots (h : Ok l d i n rs) (k : Nat) (hk : k < rs.length) : validR (d.1, d.2 + (k : Int)) = true := by
  have h1 := valid_iff.1 h.dv
  have h2 := h.c
  rw [valid_iff]
  refine ⟨h1.1, h1.2.1, ?_, ?_⟩
  · show 0 < d.2 + (k : Int)
    have := h1.2.2.1
    omega
  · show d.2 + (k : Int) ≤ 4294967295
    omega
theorem Ok.fresh (h : Ok l d i n rs) : Fresh l d (parS l i) (timeS l + 1) rs.length := by
  refine ⟨h.dots, h.new, fun x hx k hk e => ?_, fun x hx => by have := time_le hx; omega, by have := time_pos l; omega, by have := h.t; omega, ?_⟩
  · have hw := h.w
    unfold wellS at hw
    rw [Bool.and_eq_true, List.all_eq_true] at hw
    have h1 := hw.2 x hx
    unfold okN at h1
    rw [e, h.new k hk] at h1
    have h2 := h.dots k hk
    rcases hr : rootR (d.1, d.2 + (k : Int)) with _ | _
    · rw [hr] at h1; cases h1
    · rw [root_iff] at hr
      exact root_of h2 hr
  · unfold parS
    split
    · exact .inl rfl
    · rcases hx : (visS l)[i - 1]? with _ | x
      · exact .inl rfl
      · exact .inr ⟨x, (vis_mem h.v (List.mem_of_getElem? hx)).1, rfl⟩
theorem at_map {g : Nt → Nt} (hg : Like g) (l : List Nt) (d : Dt) : atS (l.map g) d = (atS l d).map g := by
  induction l with
  | nil => rfl
  | cons a t ih =>
    rw [List.map_cons, at_cons, at_cons, (hg a).1, ih]
    split <;> rfl
theorem fresh_like {g : Nt → Nt} (hg : Like g) {p : Dt} {t : Int} {m : Nat} (h : Fresh l d p t m) : Fresh (l.map g) d p t m := by
  refine ⟨h.dv, fun k hk => ?_, fun x hx k hk => ?_, fun x hx => ?_, h.t1, h.t2, ?_⟩
  · rw [at_map hg, h.new k hk]; rfl
  · obtain ⟨y, hy, rfl⟩ := List.mem_map.1 hx
    rw [(hg y).2.1]
    exact h.kid y hy k hk
  · obtain ⟨y, hy, rfl⟩ := List.mem_map.1 hx
    rw [(hg y).2.2]
    exact h.late y hy
  · rcases h.par with e | ⟨x, hx, e⟩
    · exact .inl e
    · exact .inr ⟨g x, List.mem_map.2 ⟨x, hx, rfl⟩, by rw [(hg x).1, e]⟩
/-- What an edit makes of a state. -/
def editS (l : List Nt) (d : Dt) (i n : Nat) (rs : List Int) : List Nt := foldN (chainS l d i rs) (l.map (killAt (kdots l i n)))
theorem Ok.fresh2 (h : Ok l d i n rs) : Fresh (l.map (killAt (kdots l i n))) d (parS l i) (timeS l + 1) rs.length := fresh_like (like_kill _) h.fresh
theorem Ok.well (h : Ok l d i n rs) : wellS (editS l d i n rs) = true := chain_well rs _ _ _ _ (well_kill h.w _) h.fresh2 h.r
theorem vis_killed (hv : validS l = true) (i n : Nat) : visS (l.map (killAt (kdots l i n))) = (visS l).take i ++ (visS l).drop (i + n) := by
  rw [vis_kills]
  exact filter_part (vis_nodup hv) i n
/-- The visible nodes after an edit. -/
theorem Ok.vis (h : Ok l d i n rs) : visS (editS l d i n rs) = (visS l).take i ++ chainS l d i rs ++ (visS l).drop (i + n) := by
  have hk := vis_killed h.v i n
  have hi := h.i
  have hti : ((visS l).take i).length = i := by rw [List.length_take]; omega
  have hlen : i ≤ (visS (l.map (killAt (kdots l i n)))).length := by rw [hk, List.length_append, hti]; omega
  refine (chain_vis (kill_valid h.v (kdots l i n)) h.fresh2 h.r i hlen (by
    unfold parS
    by_cases h0 : i = 0
    · rw [if_pos h0, dif_pos h0]
    · rw [if_neg h0, dif_neg h0, List.getElem?_eq_getElem (show i - 1 < (visS l).length by omega)]
      simp only [hk]
      rw [List.getElem_append_left (by rw [hti]; omega), List.getElem_take])).trans ?_
  show _ ++ chainS l d i rs ++ _ = _
  rw [hk, List.take_append, List.drop_append, hti, Nat.sub_self, List.take_zero, List.append_nil, List.drop_zero, List.take_of_length_le (by omega), List.drop_of_length_le (by omega), List.nil_append]
/-- The text after an edit. -/
theorem Ok.runes (h : Ok l d i n rs) : runesS (editS l d i n rs) = (runesS l).take i ++ rs ++ (runesS l).drop (i + n) := by
  unfold runesS
  rw [h.vis, List.map_append, List.map_append, chainS, chain_runes, List.map_take, List.map_drop]
/-- A node of a state, or what it is when it was killed. -/
def Old (l : List Nt) (z : Nt) : Prop := ∃ x ∈ l, z = x ∨ z = killN x
theorem old_ag (hv : validS l = true) {y z : Nt} (hy : Old l y) (hz : Old l z) (e : y.1 = z.1) : agreeN y z = true := by
  obtain ⟨a, ha, h1⟩ := hy
  obtain ⟨b, hb, h2⟩ := hz
  have ea : y.1 = a.1 := by rcases h1 with rfl | rfl <;> rfl
  have eb : z.1 = b.1 := by rcases h2 with rfl | rfl <;> rfl
  have hab : a = b := srt_one (validS_iff.1 hv).2 ha hb (by rw [← ea, ← eb, e])
  subst hab
  rcases h1 with rfl | rfl <;> rcases h2 with rfl | rfl
  · exact agree_self _
  · rw [agree_comm]; exact agree_kill (agree_self _)
  · exact agree_kill (agree_self _)
  · exact agree_self _
theorem old_at {z : Nt} (hz : Old l z) : atS l z.1 ≠ none := by
  obtain ⟨a, ha, h1⟩ := hz
  have ea : z.1 = a.1 := by rcases h1 with rfl | rfl <;> rfl
  intro e
  exact at_none.1 e a ha ea.symm
theorem kills_old (hv : validS l = true) {z : Nt} (h : z ∈ killsS l i n) : Old l z := by
  obtain ⟨x, hx, rfl⟩ := List.mem_map.1 h
  exact ⟨x, (vis_mem hv (List.mem_of_mem_drop (List.mem_of_mem_take hx))).1, .inr rfl⟩
theorem Ok.new_at (h : Ok l d i n rs) {z : Nt} (hz : z ∈ chainS l d i rs) : atS l z.1 = none := by
  obtain ⟨k, hk, e, -⟩ := chain_mem rs _ _ _ z hz
  rw [e]
  exact h.new k hk
theorem Ok.ag (h : Ok l d i n rs) : agAll (l ++ partsS l d i n rs) := by
  have hs := chain_srt rs d (parS l i) (timeS l + 1)
  have key : ∀ z, z ∈ l ++ partsS l d i n rs → Old l z ∨ z ∈ chainS l d i rs := fun z hz => by
    rcases List.mem_append.1 hz with hz | hz
    · exact .inl ⟨z, hz, .inl rfl⟩
    · rcases List.mem_append.1 hz with hz | hz
      · exact .inl (kills_old h.v hz)
      · exact .inr hz
  intro y hy z hz e
  rcases key y hy with hy | hy <;> rcases key z hz with hz | hz
  · exact old_ag h.v hy hz e
  · exact absurd (e ▸ h.new_at hz) (old_at hy)
  · exact absurd (e.symm ▸ h.new_at hy) (old_at hz)
  · rw [srt_one hs hy hz e]; exact agree_self _
theorem Ok.valid (h : Ok l d i n rs) : ∀ z ∈ partsS l d i n rs, validN z = true := fun z hz => by
  rcases List.mem_append.1 hz with hz | hz
  · obtain ⟨x, hx, rfl⟩ := List.mem_map.1 hz
    exact valid_killN ((validS_iff.1 h.v).1 x (vis_mem h.v (List.mem_of_mem_drop (List.mem_of_mem_take hx))).1)
  · exact chain_valid rs l _ _ _ h.v h.fresh h.r z hz
theorem kills_ne (hv : validS l = true) (i n : Nat) : (killsS l i n).Pairwise fun a b => a.1 ≠ b.1 := by
  unfold killsS
  rw [List.pairwise_map]
  exact List.Pairwise.sublist ((List.take_sublist _ _).trans (List.drop_sublist _ _)) (vis_nodup hv)
theorem Ok.ne (h : Ok l d i n rs) : (partsS l d i n rs).Pairwise fun a b => a.1 ≠ b.1 := by
  unfold partsS
  rw [List.pairwise_append]
  refine ⟨kills_ne h.v i n, (chain_srt rs _ _ _).imp fun h => less_ne h, fun y hy z hz e => ?_⟩
  exact old_at (kills_old h.v hy) (e ▸ h.new_at hz)
theorem at_ne {L : List Nt} (hn : L.Pairwise fun a b => a.1 ≠ b.1) {x : Nt} (hx : x ∈ L) : atS L x.1 = some x := by
  induction L with
  | nil => cases hx
  | cons a t ih =>
    rw [List.pairwise_cons] at hn
    rw [at_cons]
    rcases List.mem_cons.1 hx with rfl | hx
    · rw [if_pos rfl]
    · rw [if_neg (hn.1 x hx), ih hn.2 hx]
theorem mg_ne {L : List Nt} (hn : L.Pairwise fun a b => a.1 ≠ b.1) (d : Dt) : mg L d = atS L d := by
  unfold mg
  rcases ha : atS L d with _ | x
  · rfl
  · obtain ⟨hx, e⟩ := at_some ha
    rw [Option.map_some]
    by_cases hd : deadAt L d = true
    · rw [if_pos hd]
      obtain ⟨y, hy, e2, h3⟩ := deadAt_iff.1 hd
      have h4 := at_ne hn hy
      rw [e2, ha] at h4
      rw [kill_dead (Option.some.inj h4 ▸ h3)]
    · rw [if_neg hd]
/-- Nodes with different dots, put together. -/
theorem fold_mem {L : List Nt} (hv : ∀ x ∈ L, validN x = true) (hg : agAll L) (hn : L.Pairwise fun a b => a.1 ≠ b.1) : validS (foldN L []) = true ∧ ∀ x, x ∈ foldN L [] ↔ x ∈ L := by
  obtain ⟨-, h2, h3⟩ := of_ok hv hg
  refine ⟨h2, fun x => ?_⟩
  constructor
  · intro hx
    have h4 := at_mem (validS_iff.1 h2).2 hx
    rw [h3, mg_ne hn] at h4
    exact (at_some h4).1
  · intro hx
    have h4 := at_ne hn hx
    rw [← mg_ne hn, ← h3] at h4
    exact (at_some h4).1
theorem ag_sub {L M : List Nt} (h : agAll L) (hs : ∀ x ∈ M, x ∈ L) : agAll M := fun x hx y hy e => h x (hs x hx) y (hs y hy) e
theorem Ok.delta (h : Ok l d i n rs) : validS (deltaS l d i n rs) = true ∧ ∀ x, x ∈ deltaS l d i n rs ↔ x ∈ partsS l d i n rs :=
  fold_mem h.valid (ag_sub h.ag fun x hx => List.mem_append_right _ hx) h.ne
theorem fold_kills (hv : validS l = true) (i n : Nat) : foldN (killsS l i n) l = l.map (killAt (kdots l i n)) := by
  have hs := (validS_iff.1 hv).2
  have hkv : ∀ x ∈ killsS l i n, validN x = true := fun z hz => by
    obtain ⟨x, hx, rfl⟩ := List.mem_map.1 hz
    exact valid_killN ((validS_iff.1 hv).1 x (vis_mem hv (List.mem_of_mem_drop (List.mem_of_mem_take hx))).1)
  have hg : agAll (l ++ killsS l i n) := by
    have key : ∀ z, z ∈ l ++ killsS l i n → Old l z := fun z hz => by
      rcases List.mem_append.1 hz with hz | hz
      · exact ⟨z, hz, .inl rfl⟩
      · exact kills_old hv hz
    exact fun y hy z hz e => old_ag hv (key y hy) (key z hz) e
  obtain ⟨h1, h2⟩ := fold_ok (killsS l i n) l l hv (fun d => by
    rw [mg_ne (srt_ne hs)]) hkv hg
  refine at_ext (validS_iff.1 h1).2 (validS_iff.1 (kill_valid hv _)).2 fun e => ?_
  rw [h2, at_map (like_kill _)]
  unfold mg
  rw [at_app2, dead_app2, dead_store hv]
  rcases hx : atS l e with _ | x
  · rcases hy : atS (killsS l i n) e with _ | y
    · rfl
    · obtain ⟨hy1, hy2⟩ := at_some hy
      exact absurd (hy2 ▸ hx) (old_at (kills_old hv hy1))
  · simp only [Option.some_or, Option.map_some]
    obtain ⟨hxm, hxe⟩ := at_some hx
    congr 1
    have hd : deadAt (killsS l i n) e = decide (e ∈ kdots l i n) := by
      rw [Bool.eq_iff_iff, deadAt_iff, decide_eq_true_eq]
      unfold killsS kdots
      constructor
      · rintro ⟨z, hz, e1, -⟩
        obtain ⟨y, hy, rfl⟩ := List.mem_map.1 hz
        exact List.mem_map.2 ⟨y, hy, e1⟩
      · intro hz
        obtain ⟨y, hy, e1⟩ := List.mem_map.1 hz
        exact ⟨killN y, List.mem_map.2 ⟨y, hy, rfl⟩, e1, rfl⟩
    rw [hd]
    unfold killAt
    rw [hxe]
    by_cases hm : e ∈ kdots l i n
    · rw [if_pos hm, if_pos (by simp [hm])]
    · rw [if_neg hm]
      by_cases hdx : deadN x = true
      · rw [if_pos (by simp [hdx]), kill_dead hdx]
      · rw [if_neg (by simp [hdx, hm])]
/-- Joining the delta makes the edit. -/
theorem Ok.join (h : Ok l d i n rs) : agS l (deltaS l d i n rs) = true ∧ joinL l (deltaS l d i n rs) = editS l d i n rs := by
  have hd := h.delta
  have hm : ∀ x, x ∈ l ++ deltaS l d i n rs ↔ x ∈ l ++ partsS l d i n rs := fun x => by rw [List.mem_append, List.mem_append, hd.2 x]
  have hag : agS l (deltaS l d i n rs) = true := (ag_iff h.v hd.1).2 (ag_sub h.ag fun x hx => (hm x).1 hx)
  refine ⟨hag, ?_⟩
  have h1 := join_of h.v hd.1 hag
  rw [of_same hm] at h1
  have hva : ∀ x ∈ l ++ partsS l d i n rs, validN x = true := fun x hx => by
    rcases List.mem_append.1 hx with hx | hx
    · exact valid_of h.v x hx
    · exact h.valid x hx
  rw [(of_ok hva h.ag).1] at h1
  have h2 := congrArg Prod.fst h1
  simp only at h2
  rw [← h2]
  unfold partsS editS
  rw [← fold_kills h.v]
  conv => rhs; rw [← self_fold h.v]
  have e : killsS (foldN l []) i n = killsS l i n ∧ chainS (foldN l []) d i rs = chainS l d i rs := by rw [self_fold h.v]; exact ⟨rfl, rfl⟩
  unfold foldN
  rw [List.foldl_append, List.foldl_append]
  unfold foldN at e
  rw [e.1, e.2]
theorem delta_nil : deltaS l d i 0 [] = [] := by
  unfold deltaS partsS killsS chainS
  simp [chainN, foldN]
/-- Inserting only: the delta is the chain itself. -/
theorem Ok.ins (h : Ok l d i 0 rs) : deltaS l d i 0 rs = chainS l d i rs := by
  have hd := h.delta
  refine srt_ext2 (validS_iff.1 hd.1).2 (chain_srt rs _ _ _) fun x => ?_
  rw [hd.2 x]
  unfold partsS killsS
  simp
/-- The nodes of a state after an edit. -/
theorem Ok.mem (h : Ok l d i n rs) {x : Nt} (hx : x ∈ editS l d i n rs) : Old l x ∨ x ∈ chainS l d i rs := by
  have hj := h.join
  have hd := h.delta
  have hv2 := join_valid h.v hd.1 hj.1
  rw [← hj.2] at hx
  have h1 := at_mem (validS_iff.1 hv2).2 hx
  rw [join_at h.v hd.1 hj.1] at h1
  have hdel : ∀ y, y ∈ deltaS l d i n rs → Old l y ∨ y ∈ chainS l d i rs := fun y hy => by
    rcases List.mem_append.1 ((hd.2 y).1 hy) with hy | hy
    · exact .inl (kills_old h.v hy)
    · exact .inr hy
  rcases ha : atS l x.1 with _ | a <;> rcases hb : atS (deltaS l d i n rs) x.1 with _ | b <;> rw [ha, hb] at h1
  · cases h1
  · cases h1; exact hdel _ (at_some hb).1
  · cases h1; exact .inl ⟨_, (at_some ha).1, .inl rfl⟩
  · simp only at h1
    split at h1
    · cases h1; exact hdel _ (at_some hb).1
    · cases h1; exact .inl ⟨_, (at_some ha).1, .inl rfl⟩
theorem old_time {z : Nt} (hz : Old l z) : z.2.2.1 ≤ timeS l := by
  obtain ⟨a, ha, h1⟩ := hz
  have := time_le ha
  rcases h1 with rfl | rfl
  · exact this
  · exact this
theorem Ok.time (h : Ok l d i n rs) : timeS (editS l d i n rs) ≤ timeS l + (rs.length : Int) := by
  refine time_max (by have := time_pos l; omega) fun x hx => ?_
  rcases h.mem hx with hx | hx
  · have := old_time hx; omega
  · obtain ⟨k, hk, -, e, -⟩ := chain_mem rs _ _ _ x hx
    rw [e]; omega
theorem Ok.dot (h : Ok l d i n rs) {x : Nt} (hx : x ∈ editS l d i n rs) : (∃ y ∈ l, y.1 = x.1) ∨ ∃ k : Nat, k < rs.length ∧ x.1 = (d.1, d.2 + (k : Int)) := by
  rcases h.mem hx with ⟨a, ha, h1⟩ | hx
  · left
    exact ⟨a, ha, by rcases h1 with rfl | rfl <;> rfl⟩
  · obtain ⟨k, hk, e, -⟩ := chain_mem rs _ _ _ x hx
    exact .inr ⟨k, hk, e⟩
end
/-- The join of well-formed states. -/
theorem well_join {a b : List Nt} (ha : wellS a = true) (hb : wellS b = true) (h : agS a b = true) : wellS (joinL a b) = true := by
  have va := well_valid ha
  have vb := well_valid hb
  have vj := join_valid va vb h
  have hs := (validS_iff.1 vj).2
  have same : ∀ (x : Nt), x ∈ a ∨ x ∈ b → ∃ y, atS (joinL a b) x.1 = some y ∧ y.2.1 = x.2.1 ∧ y.2.2.1 = x.2.2.1 := fun x hx => by
    have h1 := join_at va vb h x.1
    rcases hx with hx | hx
    · rw [at_mem (validS_iff.1 va).2 hx] at h1
      rcases hy : atS b x.1 with _ | y
      · rw [hy] at h1; exact ⟨x, h1, rfl, rfl⟩
      · rw [hy] at h1
        obtain ⟨hym, ey⟩ := at_some hy
        have hg := agree_iff.1 ((ag_iff va vb).1 h x (List.mem_append_left _ hx) y (List.mem_append_right _ hym) ey.symm)
        refine ⟨_, h1, ?_⟩
        split
        · exact ⟨hg.2.1.symm, hg.2.2.1.symm⟩
        · exact ⟨rfl, rfl⟩
    · rw [at_mem (validS_iff.1 vb).2 hx] at h1
      rcases hy : atS a x.1 with _ | y
      · rw [hy] at h1; exact ⟨x, h1, rfl, rfl⟩
      · rw [hy] at h1
        obtain ⟨hym, ey⟩ := at_some hy
        have hg := agree_iff.1 ((ag_iff va vb).1 h y (List.mem_append_left _ hym) x (List.mem_append_right _ hx) ey)
        refine ⟨_, h1, ?_⟩
        split
        · exact ⟨rfl, rfl⟩
        · exact ⟨hg.2.1, hg.2.2.1⟩
  have back : ∀ z, z ∈ joinL a b → z ∈ a ∨ z ∈ b := fun z hz => by
    have h1 := at_mem hs hz
    rw [join_at va vb h] at h1
    rcases ha : atS a z.1 with _ | x <;> rcases hb : atS b z.1 with _ | y <;> rw [ha, hb] at h1
    · cases h1
    · cases h1; exact .inr (at_some hb).1
    · cases h1; exact .inl (at_some ha).1
    · simp only at h1
      split at h1
      · cases h1; exact .inr (at_some hb).1
      · cases h1; exact .inl (at_some ha).1
  have key : ∀ (s : List Nt), wellS s = true → (∀ x ∈ s, x ∈ a ∨ x ∈ b) → ∀ z ∈ s, okN (joinL a b) z = true := fun s hw hsub z hz => by
    unfold wellS at hw
    rw [Bool.and_eq_true, List.all_eq_true] at hw
    have h1 := hw.2 z hz
    unfold okN at h1 ⊢
    cases hr : rootR z.2.1
    · rw [hr, Bool.false_or] at h1
      rcases hp : atS s z.2.1 with _ | p
      · rw [hp] at h1; cases h1
      · rw [hp] at h1
        obtain ⟨hpm, hpe⟩ := at_some hp
        obtain ⟨y, hy, -, ht⟩ := same p (hsub p hpm)
        rw [hpe] at hy
        rw [hy]
        simpa [ht] using h1
    · rfl
  unfold wellS
  rw [vj, Bool.true_and, List.all_eq_true]
  intro z hz
  rcases back z hz with h1 | h1
  · exact key a ha (fun x hx => .inl hx) z h1
  · exact key b hb (fun x hx => .inr hx) z h1
/-- Two edits of one state by two replicas. -/
theorem two_edits {l : List Nt} {d e : Dt} {i n j m : Nat} {rs qs : List Int} (h : Ok l d i n rs) (k : Ok l e j m qs) (hne : d.1 ≠ e.1) (hno : ∀ x ∈ l, x.1.1 ≠ d.1 ∧ x.1.1 ≠ e.1) :
    agS (editS l d i n rs) (editS l e j m qs) = true ∧ wellS (joinL (editS l d i n rs) (editS l e j m qs)) = true ∧ ∀ x ∈ joinL (editS l d i n rs) (editS l e j m qs), x.1.1 = d.1 ∨ x.1.1 = e.1 → x.2.2.2 ≠ 0 := by
  have v1 := well_valid h.well
  have v2 := well_valid k.well
  have hag : agS (editS l d i n rs) (editS l e j m qs) = true := by
    rw [ag_iff v1 v2]
    have key : ∀ x ∈ editS l d i n rs, ∀ y ∈ editS l e j m qs, x.1 = y.1 → agreeN x y = true := fun x hx y hy e1 => by
      rcases h.mem hx with hx | hx <;> rcases k.mem hy with hy | hy
      · exact old_ag h.v hx hy e1
      · exact absurd (e1 ▸ k.new_at hy) (old_at hx)
      · exact absurd (e1.symm ▸ h.new_at hx) (old_at hy)
      · obtain ⟨_, _, e2, -⟩ := chain_mem rs _ _ _ x hx
        obtain ⟨_, _, e3, -⟩ := chain_mem qs _ _ _ y hy
        rw [e2, e3] at e1
        exact absurd (congrArg Prod.fst e1) hne
    intro x hx y hy e1
    rcases List.mem_append.1 hx with hx | hx <;> rcases List.mem_append.1 hy with hy | hy
    · exact self_ag v1 x hx y hy e1
    · exact key x hx y hy e1
    · rw [agree_comm]; exact key y hy x hx e1.symm
    · exact self_ag v2 x hx y hy e1
  refine ⟨hag, well_join h.well k.well hag, fun x hx hrep => ?_⟩
  have vj := join_valid v1 v2 hag
  have h1 := at_mem (validS_iff.1 vj).2 hx
  rw [join_at v1 v2 hag] at h1
  have hin : x ∈ editS l d i n rs ∨ x ∈ editS l e j m qs := by
    rcases ha : atS (editS l d i n rs) x.1 with _ | p <;> rcases hb : atS (editS l e j m qs) x.1 with _ | q <;> rw [ha, hb] at h1
    · cases h1
    · cases h1; exact .inr (at_some hb).1
    · cases h1; exact .inl (at_some ha).1
    · simp only at h1
      split at h1
      · cases h1; exact .inr (at_some hb).1
      · cases h1; exact .inl (at_some ha).1
  have old_no : ∀ z, Old l z → z.1.1 ≠ d.1 ∧ z.1.1 ≠ e.1 := fun z hz => by
    obtain ⟨a, ha, h2⟩ := hz
    have := hno a ha
    rcases h2 with rfl | rfl
    · exact this
    · exact this
  have alive : ∀ r : Int, R.vld r = true → r ≠ 0 := fun r hr e2 => by rw [e2] at hr; cases hr
  rcases hin with hin | hin
  · rcases h.mem hin with ho | hc
    · rcases hrep with e2 | e2
      · exact absurd e2 (old_no x ho).1
      · exact absurd e2 (old_no x ho).2
    · obtain ⟨_, _, -, -, hr⟩ := chain_mem rs _ _ _ x hc
      exact alive _ (h.r _ hr)
  · rcases k.mem hin with ho | hc
    · rcases hrep with e2 | e2
      · exact absurd e2 (old_no x ho).1
      · exact absurd e2 (old_no x ho).2
    · obtain ⟨_, _, -, -, hr⟩ := chain_mem qs _ _ _ x hc
      exact alive _ (k.r _ hr)
end Go.Proofs.YtkcbekebleodaaaGreat.Ed
end

/-
  Layer 15, plainly: what Insert, Delete, Replace and Apply return, errors and all; edits by turns.
-/
section
namespace Go.Proofs.YtkcbekebleodaaaGreat.Ed
set_option linter.unusedVariables false
open D Nd Qs Wk Ix Jn Fo

/-- Whether a state has one of some new dots. -/
def busyS (l : List Nt) (d : Dt) (k : Nat) : Bool := (List.range k).any fun j => (atS l (d.1, d.2 + (j : Int))).isSome
/-- What Replace returns. -/
def repP (l : List Nt) (d : Dt) (i n : Int) (rs : List Int) : List Nt × Int :=
  if (wellS l && validR d) = false then ([], 2)
  else if i < 0 ∨ ((visS l).length : Int) < i ∨ n < 0 ∨ ((visS l).length : Int) - i < n then ([], 3)
  else if 10000 < rs.length ∨ 10000 < n then ([], 5)
  else if rs.all R.vld = false then ([], 13)
  else if 4294967295 - d.2 + 1 < (rs.length : Int) ∨ 4611686018427387904 - timeS l < (rs.length : Int) then ([], 14)
  else if busyS l d rs.length = true then ([], 11)
  else (deltaS l d i.toNat n.toNat rs, 0)
theorem rep_ok {l : List Nt} {d : Dt} {i n : Int} {rs : List Int} (h1 : (wellS l && validR d) = true) (h2 : ¬ (i < 0 ∨ ((visS l).length : Int) < i ∨ n < 0 ∨ ((visS l).length : Int) - i < n)) (h3 : ¬ (10000 < rs.length ∨ 10000 < n)) (h4 : rs.all R.vld = true)
    (h5 : ¬ (4294967295 - d.2 + 1 < (rs.length : Int) ∨ 4611686018427387904 - timeS l < (rs.length : Int))) (h6 : busyS l d rs.length = false) : Ok l d i.toNat n.toNat rs ∧ repP l d i n rs = (deltaS l d i.toNat n.toNat rs, 0) := by
  constructor
  · rw [Bool.and_eq_true] at h1
    refine ⟨h1.1, h1.2, by omega, List.all_eq_true.1 h4, by omega, by omega, fun k hk => ?_⟩
    unfold busyS at h6
    rw [← Bool.not_eq_true, List.any_eq_true] at h6
    rcases ha : atS l (d.1, d.2 + (k : Int)) with _ | x
    · rfl
    · exact absurd ⟨k, List.mem_range.2 hk, by rw [ha]; rfl⟩ h6
  · unfold repP
    rw [if_neg (by rw [h1]; decide), if_neg h2, if_neg h3, if_neg (by rw [h4]; decide), if_neg h5, if_neg (by rw [h6]; decide)]
/-- The other way round: an edit that can be made is made. -/
theorem ok_rep {l : List Nt} {d : Dt} {i n : Nat} {rs : List Int} (h : Ok l d i n rs) (hn : n ≤ 10000) (hr : rs.length ≤ 10000) : repP l d i n rs = (deltaS l d i n rs, 0) := by
  have hi := h.i
  have hc := h.c
  have ht := h.t
  have hb : busyS l d rs.length = false := by
    unfold busyS
    rw [← Bool.not_eq_true, List.any_eq_true]
    rintro ⟨k, hk, e⟩
    rw [h.new k (List.mem_range.1 hk)] at e
    cases e
  have := (rep_ok (l := l) (d := d) (i := i) (n := n) (rs := rs) (by rw [h.w, h.dv]; rfl) (by omega) (by omega) (List.all_eq_true.2 h.r) (by omega) hb).2
  rw [this]
  simp
section
variable {l : List Nt} {d : Dt} {i n : Nat} {rs : List Int}
theorem Ok.none (h : Ok l d i n rs) : Ok l d i n [] := ⟨h.w, h.dv, h.i, (fun r hr => by cases hr), by have := h.c; simp; omega, by have := h.t; simp; omega, fun k hk => by simp at hk⟩
theorem Ok.only (h : Ok l d i n rs) : Ok l d i 0 rs := ⟨h.w, h.dv, by have := h.i; omega, h.r, h.c, h.t, h.new⟩
/-- The reference puts one node in after the other. -/
theorem Ok.ref (h : Ok l d i n rs) : (partsS l d i n rs).foldl stepR [] = deltaS l d i n rs :=
  joinR_go _ [] [] nil_valid (fun d => rfl) h.valid (ag_sub h.ag fun x hx => List.mem_append_right _ hx)
/-- The delta for replacing is the join of that for deleting and that for inserting. -/
theorem Ok.both (h : Ok l d i n rs) : agS (deltaS l d i n []) (deltaS l d i 0 rs) = true ∧ joinL (deltaS l d i n []) (deltaS l d i 0 rs) = deltaS l d i n rs := by
  have h1 := h.none.delta
  have h2 := h.only.delta
  have m1 : ∀ x, x ∈ deltaS l d i n [] ↔ x ∈ killsS l i n := fun x => by rw [h1.2 x]; unfold partsS chainS; simp [chainN]
  have m2 : ∀ x, x ∈ deltaS l d i 0 rs ↔ x ∈ chainS l d i rs := fun x => by rw [h2.2 x]; unfold partsS killsS; simp
  have hm : ∀ x, x ∈ deltaS l d i n [] ++ deltaS l d i 0 rs ↔ x ∈ partsS l d i n rs := fun x => by
    unfold partsS
    rw [List.mem_append, List.mem_append, m1, m2]
  have hg : agAll (partsS l d i n rs) := ag_sub h.ag fun x hx => List.mem_append_right _ hx
  have ha : agS (deltaS l d i n []) (deltaS l d i 0 rs) = true := (ag_iff h1.1 h2.1).2 (ag_sub hg fun x hx => (hm x).1 hx)
  refine ⟨ha, ?_⟩
  have h3 := join_of h1.1 h2.1 ha
  rw [of_same hm, (of_ok h.valid hg).1] at h3
  exact (congrArg Prod.fst h3).symm
end
/-- What Apply returns: a state, its text, an error. -/
def appP (l m : List Nt) : List Nt × List Int × Int :=
  if (validS l && validS m) = true then (if agS l m = true then (joinL l m, runesS (joinL l m), 0) else ([], [], 15)) else ([], [], 2)
theorem Ok.app {l : List Nt} {d : Dt} {i n : Nat} {rs : List Int} (h : Ok l d i n rs) : appP l (deltaS l d i n rs) = (editS l d i n rs, (runesS l).take i ++ rs ++ (runesS l).drop (i + n), 0) := by
  unfold appP
  rw [h.v, h.delta.1, h.join.1, h.join.2, h.runes]
  rfl
/-- The greatest time, 0 of what is no store. -/
def lateP (l : List Nt) : Int := if validS l = true then timeS l else 0
/-! ### Edits by turns -/
/-- What a state has after some edits of the replicas 1 and 2. -/
structure Pl (l : List Nt) (c1 c2 B : Int) : Prop where
  w : wellS l = true
  d : ∀ x ∈ l, (x.1.1 = 1 ∧ x.1.2 < c1) ∨ (x.1.1 = 2 ∧ x.1.2 < c2)
  t : timeS l ≤ B
  c : 1 ≤ c1 ∧ c1 ≤ B + 1 ∧ 1 ≤ c2 ∧ c2 ≤ B + 1
theorem Pl.start : Pl [] 1 1 0 := ⟨rfl, (fun x hx => by cases hx), by decide, by omega⟩
theorem Pl.ok1 {l : List Nt} {c1 c2 B : Int} (h : Pl l c1 c2 B) (hB : B ≤ 1000) {i n : Nat} {rs : List Int} (hi : i + n ≤ (visS l).length) (hr : ∀ r ∈ rs, R.vld r = true) (hl : rs.length ≤ 100) : Ok l (1, c1) i n rs ∧ Pl (editS l (1, c1) i n rs) (c1 + (rs.length : Int)) c2 (B + (rs.length : Int)) := by
  have hc := h.c
  have ht := h.t
  have ok : Ok l (1, c1) i n rs := ⟨h.w, valid_iff.2 (by show (0 : Int) < 1 ∧ (1 : Int) ≤ 64 ∧ 0 < c1 ∧ c1 ≤ 4294967295; omega), hi, hr, by show c1 + _ ≤ _; omega, by omega, fun k hk => at_none.2 fun x hx e => by
    have h1 : x.1.1 = 1 := congrArg Prod.fst e
    have h2 : x.1.2 = c1 + (k : Int) := congrArg Prod.snd e
    rcases h.d x hx with h3 | h3 <;> omega⟩
  refine ⟨ok, ok.well, fun x hx => ?_, by have := ok.time; omega, by omega⟩
  rcases ok.dot hx with ⟨y, hy, e⟩ | ⟨k, hk, e⟩
  · have := h.d y hy
    rw [e] at this
    omega
  · left
    rw [e]
    show (1 : Int) = 1 ∧ c1 + (k : Int) < c1 + _
    omega
theorem Pl.ok2 {l : List Nt} {c1 c2 B : Int} (h : Pl l c1 c2 B) (hB : B ≤ 1000) {i n : Nat} {rs : List Int} (hi : i + n ≤ (visS l).length) (hr : ∀ r ∈ rs, R.vld r = true) (hl : rs.length ≤ 100) : Ok l (2, c2) i n rs ∧ Pl (editS l (2, c2) i n rs) c1 (c2 + (rs.length : Int)) (B + (rs.length : Int)) := by
  have hc := h.c
  have ht := h.t
  have ok : Ok l (2, c2) i n rs := ⟨h.w, valid_iff.2 (by show (0 : Int) < 2 ∧ (2 : Int) ≤ 64 ∧ 0 < c2 ∧ c2 ≤ 4294967295; omega), hi, hr, by show c2 + _ ≤ _; omega, by omega, fun k hk => at_none.2 fun x hx e => by
    have h1 : x.1.1 = 2 := congrArg Prod.fst e
    have h2 : x.1.2 = c2 + (k : Int) := congrArg Prod.snd e
    rcases h.d x hx with h3 | h3 <;> omega⟩
  refine ⟨ok, ok.well, fun x hx => ?_, by have := ok.time; omega, by omega⟩
  rcases ok.dot hx with ⟨y, hy, e⟩ | ⟨k, hk, e⟩
  · have := h.d y hy
    rw [e] at this
    omega
  · right
    rw [e]
    show (2 : Int) = 2 ∧ c2 + (k : Int) < c2 + _
    omega
/-- An edit by a replica that a state has no dot of. -/
theorem ok_away {l : List Nt} (hw : wellS l = true) {r : Int} (hr1 : 1 ≤ r) (hr2 : r ≤ 64) (hno : ∀ x ∈ l, x.1.1 ≠ r) (ht : timeS l ≤ 4611686018427387884) {i n : Nat} {rs : List Int} (hi : i + n ≤ (visS l).length) (hr : ∀ r ∈ rs, R.vld r = true) (hl : rs.length ≤ 20) : Ok l (r, 1) i n rs :=
  ⟨hw, valid_iff.2 (by show 0 < r ∧ r ≤ 64 ∧ (0 : Int) < 1 ∧ (1 : Int) ≤ 4294967295; omega), hi, hr, by show (1 : Int) + _ ≤ _; omega, by omega, fun k hk => at_none.2 fun x hx e => hno x hx (congrArg Prod.fst e)⟩
/-- Two edits beside each other, applied in either order. -/
theorem apply_two {l : List Nt} {d e : Dt} {i n j m : Nat} {rs qs : List Int} (h : Ok l d i n rs) (k : Ok l e j m qs) (hne : d.1 ≠ e.1) (hno : ∀ x ∈ l, x.1.1 ≠ d.1 ∧ x.1.1 ≠ e.1) :
    let x := editS l d i n rs; let y := editS l e j m qs
    appP x y = (joinL x y, runesS (joinL x y), 0) ∧ appP y x = (joinL x y, runesS (joinL x y), 0) ∧ wellS (joinL x y) = true ∧ ∀ z ∈ joinL x y, z.1.1 = d.1 ∨ z.1.1 = e.1 → z.2.2.2 ≠ 0 := by
  intro x y
  have v1 := well_valid h.well
  have v2 := well_valid k.well
  obtain ⟨h1, h2, h3⟩ := two_edits h k hne hno
  have h4 : agS y x = true := by rw [ag_comm v2 v1]; exact h1
  refine ⟨?_, ?_, h2, h3⟩
  · unfold appP
    rw [show validS x = true from v1, show validS y = true from v2, show agS x y = true from h1]
    rfl
  · unfold appP
    rw [show validS x = true from v1, show validS y = true from v2, h4, show joinL y x = joinL x y from join_comm v1 v2 h1]
    rfl
end Go.Proofs.YtkcbekebleodaaaGreat.Ed
end

/-
  Layer 13, plainly: faults as loops lay them; what goes with a node, as rounds find it; chains.
-/
section
namespace Go.Proofs.YtkcbekebleodaaaGreat.Fo
set_option linter.unusedVariables false
open D Nd Qs Wk

/-! ### Faults -/
def faultT (l : List Nt) (k : Nat) : List Dt := ((List.range k).filter fun i => !decide (flawN l i = 0)).map fun (i : Nat) => ((i : Int), flawN l i)
def faultS (l : List Nt) : List Dt := faultT l l.length
theorem fault_hit {l : List Nt} {k : Nat} (h : flawN l k ≠ 0) : faultT l (k + 1) = faultT l k ++ [((k : Int), flawN l k)] := by
  unfold faultT
  rw [List.range_succ, List.filter_append, List.map_append]
  simp [h]
theorem fault_miss {l : List Nt} {k : Nat} (h : flawN l k = 0) : faultT l (k + 1) = faultT l k := by
  unfold faultT
  rw [List.range_succ, List.filter_append, List.map_append]
  simp [h]
theorem fault_len (l : List Nt) (k : Nat) : (faultT l k).length ≤ k := by
  unfold faultT
  rw [List.length_map]
  exact Nat.le_trans (List.length_filter_le _ _) (by rw [List.length_range]; exact Nat.le_refl _)
theorem fault_none {l : List Nt} (h : ∀ i, i < l.length → flawN l i = 0) : faultS l = [] := by
  unfold faultS faultT
  rw [List.map_eq_nil_iff, List.filter_eq_nil_iff]
  intro i hi
  rw [List.mem_range] at hi
  simp [h i hi]
theorem well_fault {l : List Nt} : wellS l = true ↔ faultS l = [] := by
  rw [well_iff]
  constructor
  · exact fault_none
  · intro h i hi
    unfold faultS faultT at h
    rw [List.map_eq_nil_iff, List.filter_eq_nil_iff] at h
    have := h i (List.mem_range.2 hi)
    simpa using this
theorem well_len (l : List Nt) : wellS l = decide ((faultS l).length = 0) := by
  rcases h : wellS l with _ | _
  · symm
    rw [decide_eq_false_iff_not, List.length_eq_zero_iff]
    exact fun e => by rw [well_fault.2 e] at h; cases h
  · symm
    rw [decide_eq_true_iff, List.length_eq_zero_iff]
    exact well_fault.1 h

/-! ### The program's rounds -/
def flawT (l : List Nt) (k : Nat) : List Int := (List.range k).map (flawN l)
theorem flawT_len (l : List Nt) (k : Nat) : (flawT l k).length = k := by unfold flawT; simp
theorem flawT_at (l : List Nt) (k i : Nat) (h : i < (flawT l k).length) : (flawT l k)[i] = flawN l i := by
  unfold flawT at *
  rw [List.getElem_map, List.getElem_range]
theorem flawT_succ (l : List Nt) (k : Nat) : flawT l (k + 1) = flawT l k ++ [flawN l k] := by unfold flawT; rw [List.range_succ, List.map_append]; rfl

/-! ### The reference's way up -/

/-! ### Long chains of which one node is spoilt -/
section
variable {f : Nat → Nt} {n : Nat}
end
end Go.Proofs.YtkcbekebleodaaaGreat.Fo
end
