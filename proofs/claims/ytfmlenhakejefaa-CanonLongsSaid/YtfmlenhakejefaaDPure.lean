/-
  Dots, their order, and sets of dots, plainly.
-/
import Derived.WalkKit
namespace Go.Proofs.Ytfmlenhakejefaa.D
set_option linter.unusedVariables false

/-- A dot: the replica and the counter. -/
abbrev Dt := Int × Int
def less (a b : Dt) : Bool := if a.2 = b.2 then decide (a.1 < b.1) else decide (a.2 < b.2)
theorem less_iff {a b : Dt} : less a b = true ↔ a.2 < b.2 ∨ (a.2 = b.2 ∧ a.1 < b.1) := by
  unfold less
  split
  · simp; omega
  · simp; omega
theorem less_irr (a : Dt) : less a a = false := by
  rw [← Bool.not_eq_true, less_iff]; omega
theorem less_trans {a b c : Dt} (h : less a b = true) (k : less b c = true) : less a c = true := by
  rw [less_iff] at *; omega
theorem less_asymm {a b : Dt} (h : less a b = true) : less b a = false := by
  rw [← Bool.not_eq_true, less_iff]; rw [less_iff] at h; omega
theorem less_tri {a b : Dt} (h : less a b = false) (k : less b a = false) : a = b := by
  rw [← Bool.not_eq_true, less_iff] at *
  exact Prod.ext (by omega) (by omega)
theorem less_ne {a b : Dt} (h : less a b = true) : a ≠ b := by rintro rfl; rw [less_irr] at h; cases h
/-- The order of two dots. -/
def cmpR (a b : Dt) : Int := if less a b = true then -1 else if less b a = true then 1 else 0
theorem cmp_zero {a b : Dt} : cmpR a b = 0 ↔ a = b := by
  unfold cmpR
  by_cases h : less a b = true
  · rw [if_pos h]
    exact ⟨fun e => by omega, fun e => absurd e (less_ne h)⟩
  · rw [if_neg h]
    by_cases k : less b a = true
    · rw [if_pos k]
      exact ⟨fun e => by omega, fun e => absurd e.symm (less_ne k)⟩
    · rw [if_neg k]
      exact ⟨fun _ => less_tri (by simpa using h) (by simpa using k), fun _ => rfl⟩
theorem cmp_neg {a b : Dt} : cmpR a b < 0 ↔ less a b = true := by
  unfold cmpR
  by_cases h : less a b = true
  · rw [if_pos h]; exact ⟨fun _ => h, fun _ => by omega⟩
  · rw [if_neg h]
    split
    · exact ⟨fun e => by omega, fun e => absurd e h⟩
    · exact ⟨fun e => by omega, fun e => absurd e h⟩
theorem cmp_swap (a b : Dt) : cmpR b a = - cmpR a b := by
  unfold cmpR
  by_cases h : less a b = true
  · have := less_asymm h
    simp [h, this]
  · by_cases k : less b a = true
    · simp [h, k]
    · simp [h, k]
theorem cmp_pos {a b : Dt} : 0 < cmpR a b ↔ less b a = true := by
  rw [← cmp_neg, cmp_swap a b]; omega

/-! ### Sets -/
def Srt (l : List Dt) : Prop := l.Pairwise fun a b => less a b = true
def isSetR : List Dt → Bool
  | [] => true
  | [_] => true
  | a :: b :: t => less a b && isSetR (b :: t)
theorem srt_of : ∀ (l : List Dt), isSetR l = true → Srt l
  | [], _ => List.Pairwise.nil
  | [a], _ => by unfold Srt; simp
  | a :: b :: t, h => by
    simp only [isSetR, Bool.and_eq_true] at h
    have k := srt_of (b :: t) h.2
    unfold Srt at k ⊢
    rw [List.pairwise_cons]
    refine ⟨fun x hx => ?_, k⟩
    rcases List.mem_cons.1 hx with rfl | hx
    · exact h.1
    · exact less_trans h.1 ((List.pairwise_cons.1 k).1 x hx)
theorem isSet_of : ∀ (l : List Dt), Srt l → isSetR l = true
  | [], _ => rfl
  | [a], _ => rfl
  | a :: b :: t, h => by
    unfold Srt at h
    rw [List.pairwise_cons] at h
    simp only [isSetR, Bool.and_eq_true]
    exact ⟨h.1 b (by simp), isSet_of (b :: t) h.2⟩
theorem isSet_iff {l : List Dt} : isSetR l = true ↔ Srt l := ⟨srt_of l, isSet_of l⟩
/-- What a loop over neighbours finds. -/
theorem isSet_at (l : List Dt) (h : ∀ i (hi : i + 1 < l.length), less l[i] l[i + 1] = true) : isSetR l = true := by
  rw [isSet_iff]
  unfold Srt
  rw [List.pairwise_iff_getElem]
  intro i j hi hj hij
  obtain ⟨k, rfl⟩ : ∃ k, j = i + 1 + k := ⟨j - i - 1, by omega⟩
  clear hij
  induction k with
  | zero => exact h i hj
  | succ k ih => exact less_trans (ih (by omega)) (h (i + 1 + k) (by omega))
theorem isSet_not {l : List Dt} (i : Nat) (hi : i + 1 < l.length) (h : less l[i] l[i + 1] = false) : isSetR l = false := by
  rw [← Bool.not_eq_true, isSet_iff]
  intro k
  unfold Srt at k
  rw [List.pairwise_iff_getElem] at k
  have := k i (i + 1) (by omega) hi (by omega)
  rw [h] at this
  cases this

/-- Two sets with the same dots are one. -/
theorem srt_ext : ∀ {l m : List Dt}, Srt l → Srt m → (∀ x, x ∈ l ↔ x ∈ m) → l = m
  | [], [], _, _, _ => rfl
  | [], b :: m, _, _, h => absurd ((h b).2 (by simp)) (by simp)
  | a :: l, [], _, _, h => absurd ((h a).1 (by simp)) (by simp)
  | a :: l, b :: m, hl, hm, h => by
    unfold Srt at hl hm
    rw [List.pairwise_cons] at hl hm
    have hab : a = b := by
      rcases List.mem_cons.1 ((h a).1 (by simp)) with e | e
      · exact e
      · rcases List.mem_cons.1 ((h b).2 (by simp)) with e2 | e2
        · exact e2.symm
        · have h1 := hm.1 a e
          have h2 := hl.1 b e2
          rw [less_asymm h1] at h2
          cases h2
    subst hab
    congr 1
    refine srt_ext hl.2 hm.2 fun x => ?_
    constructor
    · intro hx
      rcases List.mem_cons.1 ((h x).1 (by simp [hx])) with e | e
      · exact absurd e.symm (less_ne (hl.1 x hx))
      · exact e
    · intro hx
      rcases List.mem_cons.1 ((h x).2 (by simp [hx])) with e | e
      · exact absurd e.symm (less_ne (hm.1 x hx))
      · exact e

/-! ### One more dot -/
theorem mem_while {p : Dt → Bool} {x : Dt} : ∀ {l : List Dt}, x ∈ l.takeWhile p → p x = true
  | [], h => by simp at h
  | a :: t, h => by
    rw [List.takeWhile_cons] at h
    split at h
    · rcases List.mem_cons.1 h with rfl | h
      · assumption
      · exact mem_while h
    · simp at h
/-- Before how many dots of a set a dot stands: those that are less come first. -/
def pos (s : List Dt) (d : Dt) : Nat := (s.takeWhile fun x => less x d).length
theorem pos_le (s : List Dt) (d : Dt) : pos s d ≤ s.length := by
  unfold pos
  have := congrArg List.length (List.takeWhile_append_dropWhile (p := fun x => less x d) (l := s))
  rw [List.length_append] at this
  omega
theorem pos_take (s : List Dt) (d : Dt) : s.take (pos s d) = s.takeWhile fun x => less x d := by
  unfold pos
  conv => lhs; arg 2; rw [← List.takeWhile_append_dropWhile (p := fun x => less x d) (l := s)]
  rw [List.take_left' rfl]
theorem pos_drop (s : List Dt) (d : Dt) : s.drop (pos s d) = s.dropWhile fun x => less x d := by
  unfold pos
  conv => lhs; arg 2; rw [← List.takeWhile_append_dropWhile (p := fun x => less x d) (l := s)]
  rw [List.drop_left' rfl]
theorem pos_lt {s : List Dt} {d : Dt} {i : Nat} (hi : i < s.length) (h : i < pos s d) : less s[i] d = true := by
  have h1 : s[i] ∈ s.take (pos s d) := by
    rw [List.mem_take_iff_getElem]
    exact ⟨i, by omega, rfl⟩
  rw [pos_take] at h1
  exact mem_while (p := fun x => less x d) h1
theorem pos_at {s : List Dt} {d : Dt} (h : pos s d < s.length) : less s[pos s d] d = false := by
  have h1 : s.drop (pos s d) = s[pos s d] :: s.drop (pos s d + 1) := List.drop_eq_getElem_cons h
  rw [pos_drop] at h1
  have h2 := List.head?_dropWhile_not (fun x => less x d) s
  rw [h1] at h2
  exact h2
/-- The steps of the loop that looks for it. -/
theorem pos_go {s : List Dt} {d : Dt} {i : Nat} (hi : i < s.length) (h : i ≤ pos s d) (hl : less s[i] d = true) : i + 1 ≤ pos s d := by
  rcases Nat.lt_or_ge i (pos s d) with k | k
  · omega
  · have e : i = pos s d := by omega
    subst e
    rw [pos_at hi] at hl
    cases hl
theorem pos_stop {s : List Dt} {d : Dt} {i : Nat} (hi : i < s.length) (h : i ≤ pos s d) (hl : less s[i] d = false) : i = pos s d := by
  rcases Nat.lt_or_ge i (pos s d) with k | k
  · rw [pos_lt hi k] at hl
    cases hl
  · omega
theorem pos_end {s : List Dt} {d : Dt} {i : Nat} (hi : i = s.length) (h : i ≤ pos s d) : i = pos s d := by have := pos_le s d; omega

def ins (s : List Dt) (d : Dt) : List Dt := if d ∈ s then s else s.take (pos s d) ++ [d] ++ s.drop (pos s d)
theorem mem_ins {s : List Dt} {d x : Dt} : x ∈ ins s d ↔ x ∈ s ∨ x = d := by
  unfold ins
  split
  · rename_i h
    exact ⟨.inl, fun k => k.elim id fun e => e ▸ h⟩
  · rw [List.mem_append, List.mem_append, List.mem_singleton]
    have h : x ∈ s ↔ x ∈ s.take (pos s d) ∨ x ∈ s.drop (pos s d) := by
      conv => lhs; rw [← List.take_append_drop (pos s d) s]
      exact List.mem_append
    rw [h]
    constructor
    · rintro ((h | h) | h)
      · exact .inl (.inl h)
      · exact .inr h
      · exact .inl (.inr h)
    · rintro ((h | h) | h)
      · exact .inl (.inl h)
      · exact .inr h
      · exact .inl (.inr h)
theorem srt_ins {s : List Dt} (hs : Srt s) (d : Dt) : Srt (ins s d) := by
  unfold ins
  split
  · exact hs
  · rename_i hd
    have hs' := hs
    unfold Srt at hs hs' ⊢
    rw [← List.take_append_drop (pos s d) s, List.pairwise_append] at hs
    obtain ⟨h1, h2, h3⟩ := hs
    rw [List.append_assoc, List.pairwise_append]
    have hlt : ∀ a ∈ s.take (pos s d), less a d = true := by
      intro a ha
      rw [pos_take] at ha
      exact mem_while (p := fun x => less x d) ha
    have hgt : ∀ b ∈ s.drop (pos s d), less d b = true := by
      intro b hb
      obtain ⟨i, hi, rfl⟩ := List.mem_iff_getElem.1 hb
      rw [List.length_drop] at hi
      have hb0 : pos s d < s.length := by omega
      have h0 := pos_at hb0
      have hne : s[pos s d] ≠ d := fun e => hd (by rw [← e]; exact List.getElem_mem hb0)
      have hd0 : less d s[pos s d] = true := by
        rcases h4 : less d s[pos s d] with _ | _
        · exact absurd (less_tri h0 h4) hne
        · rfl
      rw [List.getElem_drop]
      rcases i with _ | i
      · exact hd0
      · exact less_trans hd0 (List.pairwise_iff_getElem.1 hs' (pos s d) (pos s d + (i + 1)) hb0 (by omega) (by omega))
    refine ⟨h1, ?_, ?_⟩
    · rw [List.singleton_append, List.pairwise_cons]
      exact ⟨hgt, h2⟩
    · intro a ha b hb
      rw [List.singleton_append, List.mem_cons] at hb
      rcases hb with rfl | hb
      · exact hlt a ha
      · exact h3 a ha b hb
theorem ins_len (s : List Dt) (d : Dt) : (ins s d).length ≤ s.length + 1 := by
  unfold ins
  split
  · omega
  · rw [List.length_append, List.length_append, List.length_take, List.length_drop]
    simp
    omega

/-! ### Lists -/
def unionR (a b : List Dt) : List Dt := b.foldl ins (a.foldl ins [])
def minusR (a b : List Dt) : List Dt := a.foldl (fun o d => if d ∈ b then o else ins o d) []
def setR (l : List Dt) : List Dt := unionR l []
theorem mem_fold {x : Dt} : ∀ (l s : List Dt), x ∈ l.foldl ins s ↔ x ∈ s ∨ x ∈ l
  | [], s => by simp
  | d :: t, s => by
    rw [List.foldl_cons, mem_fold t, mem_ins, List.mem_cons, or_assoc]
theorem srt_fold : ∀ (l : List Dt) {s : List Dt}, Srt s → Srt (l.foldl ins s)
  | [], _, h => h
  | d :: t, _, h => srt_fold t (srt_ins h d)
theorem fold_len : ∀ (l s : List Dt), (l.foldl ins s).length ≤ s.length + l.length
  | [], s => by simp
  | d :: t, s => by
    rw [List.foldl_cons]
    have h1 := fold_len t (ins s d)
    have h2 := ins_len s d
    simp only [List.length_cons]
    omega
theorem mem_union {a b : List Dt} {x : Dt} : x ∈ unionR a b ↔ x ∈ a ∨ x ∈ b := by
  unfold unionR
  rw [mem_fold, mem_fold]
  simp
theorem srt_nil : Srt [] := List.Pairwise.nil
theorem srt_union (a b : List Dt) : Srt (unionR a b) := srt_fold b (srt_fold a srt_nil)
theorem union_len (a b : List Dt) : (unionR a b).length ≤ a.length + b.length := by
  unfold unionR
  have h1 := fold_len b (a.foldl ins [])
  have h2 := fold_len a []
  simp only [List.length_nil] at h2
  omega
theorem minus_fold (b : List Dt) : ∀ (l s : List Dt), l.foldl (fun o d => if d ∈ b then o else ins o d) s = (l.filter fun d => decide (d ∉ b)).foldl ins s
  | [], s => rfl
  | d :: t, s => by
    rw [List.foldl_cons, minus_fold b t]
    by_cases h : d ∈ b
    · simp [h]
    · simp [h]
theorem minus_union (a b : List Dt) : minusR a b = unionR (a.filter fun d => decide (d ∉ b)) [] := by
  unfold minusR unionR
  rw [minus_fold]
  rfl
theorem mem_minus {a b : List Dt} {x : Dt} : x ∈ minusR a b ↔ x ∈ a ∧ x ∉ b := by
  rw [minus_union, mem_union]
  simp
theorem srt_minus (a b : List Dt) : Srt (minusR a b) := by rw [minus_union]; exact srt_union _ _
theorem mem_set {l : List Dt} {x : Dt} : x ∈ setR l ↔ x ∈ l := by unfold setR; rw [mem_union]; simp
theorem srt_set (l : List Dt) : Srt (setR l) := srt_union l []
/-- What is in order and has the dots of a list is its set. -/
theorem set_eq {l m : List Dt} (hm : Srt m) (h : ∀ x, x ∈ m ↔ x ∈ l) : m = setR l := srt_ext hm (srt_set l) fun x => by rw [mem_set]; exact h x
theorem union_eq {a b m : List Dt} (hm : Srt m) (h : ∀ x, x ∈ m ↔ x ∈ a ∨ x ∈ b) : m = unionR a b := srt_ext hm (srt_union a b) fun x => by rw [mem_union]; exact h x
theorem minus_eq {a b m : List Dt} (hm : Srt m) (h : ∀ x, x ∈ m ↔ x ∈ a ∧ x ∉ b) : m = minusR a b := srt_ext hm (srt_minus a b) fun x => by rw [mem_minus]; exact h x
theorem set_set (l : List Dt) : setR (setR l) = setR l := (set_eq (srt_set l) fun x => Iff.rfl).symm
theorem set_of_srt {l : List Dt} (h : Srt l) : setR l = l := (set_eq h fun x => Iff.rfl).symm
theorem union_comm (a b : List Dt) : unionR a b = unionR b a := union_eq (srt_union a b) fun x => by rw [mem_union]; exact Or.comm
theorem union_set (a b : List Dt) : setR (a ++ b) = unionR a b := union_eq (srt_set _) fun x => by rw [mem_set, List.mem_append]
theorem minus_back (a b : List Dt) : unionR (minusR a b) b = unionR a b := union_eq (srt_union _ b) fun x => by
  rw [mem_union, mem_minus]
  by_cases h : x ∈ b <;> simp [h]
theorem minus_none {m s : List Dt} (h : ∀ x ∈ m, x ∈ s) : minusR m s = [] := by
  apply List.eq_nil_iff_forall_not_mem.2
  intro x hx
  rw [mem_minus] at hx
  exact hx.2 (h x hx.1)
end Go.Proofs.Ytfmlenhakejefaa.D
