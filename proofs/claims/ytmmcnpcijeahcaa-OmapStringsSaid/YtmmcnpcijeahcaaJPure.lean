/-
  Ordered maps, plainly: pairs of a number and a string in the order of the numbers, or the other way round.
-/
import Derived.WalkKit
namespace Go.Proofs.Ytmmcnpcijeahcaa.J
set_option linter.unusedVariables false

/-- A key with its value. -/
abbrev Pr := Int × ByteArray
/-- Whether a key comes before another one. -/
def bef (d : Bool) (a b : Int) : Bool := if d then decide (b < a) else decide (a < b)
theorem bef_iff {d : Bool} {a b : Int} : bef d a b = true ↔ (d = true ∧ b < a) ∨ (d = false ∧ a < b) := by
  unfold bef; cases d <;> simp
theorem bef_irr (d : Bool) (a : Int) : bef d a a = false := by unfold bef; cases d <;> simp
theorem bef_trans {d : Bool} {a b c : Int} (h : bef d a b = true) (k : bef d b c = true) : bef d a c = true := by
  rw [bef_iff] at *
  cases d <;> simp at * <;> omega
theorem bef_asymm {d : Bool} {a b : Int} (h : bef d a b = true) : bef d b a = false := by
  rw [← Bool.not_eq_true, bef_iff]; rw [bef_iff] at h
  rcases h with ⟨rfl, h⟩ | ⟨rfl, h⟩ <;> simp <;> omega
theorem bef_tri {d : Bool} {a b : Int} (h : bef d a b = false) (k : bef d b a = false) : a = b := by
  rw [← Bool.not_eq_true, bef_iff] at *
  cases d <;> simp at h k <;> omega
theorem bef_ne {d : Bool} {a b : Int} (h : bef d a b = true) : a ≠ b := by rintro rfl; rw [bef_irr] at h; cases h
/-- The pairs are in the order. -/
def Srt (d : Bool) (l : List Pr) : Prop := l.Pairwise fun a b => bef d a.1 b.1 = true
/-- How many keys come before a key. -/
def rank (d : Bool) (l : List Pr) (k : Int) : Nat := (l.takeWhile fun p => bef d p.1 k).length
theorem rank_le (d : Bool) (l : List Pr) (k : Int) : rank d l k ≤ l.length := by
  unfold rank
  induction l with
  | nil => simp
  | cons a t ih =>
    simp only [List.takeWhile_cons]
    split
    · simp only [List.length_cons]; omega
    · simp
theorem rank_lo {d : Bool} {k : Int} : ∀ {l : List Pr} {i : Nat} (h : i < l.length), i < rank d l k → bef d l[i].1 k = true
  | a :: t, 0, h, hi => by
    simp only [rank, List.takeWhile_cons] at hi
    split at hi
    · assumption
    · simp at hi
  | a :: t, i + 1, h, hi => by
    simp only [rank, List.takeWhile_cons] at hi
    split at hi
    · exact rank_lo (l := t) (by simpa using h) (by simpa [rank] using hi)
    · simp at hi
theorem rank_at {d : Bool} {k : Int} : ∀ {l : List Pr} (h : rank d l k < l.length), bef d l[rank d l k].1 k = false
  | [], h => by simp at h
  | a :: t, h => by
    rcases ha : bef d a.1 k with _ | _
    · have e : rank d (a :: t) k = 0 := by simp [rank, ha]
      simp only [e, List.getElem_cons_zero, ha]
    · have e : rank d (a :: t) k = rank d t k + 1 := by simp [rank, ha]
      simp only [e, List.getElem_cons_succ]
      exact rank_at (l := t) (by rw [e] at h; simpa using h)
theorem rank_hi {d : Bool} {k : Int} {l : List Pr} (hs : Srt d l) {i : Nat} (h : i < l.length) (hi : rank d l k ≤ i) : bef d l[i].1 k = false := by
  have h0 : rank d l k < l.length := by omega
  have h1 := rank_at (d := d) (k := k) (l := l) h0
  rcases Nat.lt_or_eq_of_le hi with h2 | h2
  · have h3 := List.pairwise_iff_getElem.1 hs (rank d l k) i h0 h h2
    rw [← Bool.not_eq_true]
    intro h4
    rw [bef_trans h3 h4] at h1
    cases h1
  · simpa only [h2] using h1
/-- What a search finds is the rank. -/
theorem rank_eq {d : Bool} {k : Int} {l : List Pr} {i : Nat} (hi : i ≤ l.length) (h1 : ∀ j (hj : j < l.length), j < i → bef d l[j].1 k = true) (h2 : ∀ hj : i < l.length, bef d l[i].1 k = false) : rank d l k = i := by
  rcases Nat.lt_trichotomy (rank d l k) i with h | h | h
  · have := h1 (rank d l k) (by omega) h
    rw [rank_at (by omega)] at this
    cases this
  · exact h
  · have hl := rank_le d l k
    have := rank_lo (d := d) (k := k) (l := l) (i := i) (by omega) h
    rw [h2 (by omega)] at this
    cases this
theorem rank_self {d : Bool} {l : List Pr} (hs : Srt d l) {i : Nat} (h : i < l.length) : rank d l l[i].1 = i :=
  rank_eq (by omega) (fun j hj hji => List.pairwise_iff_getElem.1 hs j i hj h hji) fun _ => bef_irr _ _
def getR (d : Bool) (l : List Pr) (k : Int) : ByteArray × Bool :=
  match l[rank d l k]? with
  | some p => if p.1 = k then (p.2, true) else (⟨#[]⟩, false)
  | none => (⟨#[]⟩, false)
theorem getR_self {d : Bool} {l : List Pr} (hs : Srt d l) {i : Nat} (h : i < l.length) : getR d l l[i].1 = (l[i].2, true) := by
  unfold getR
  rw [rank_self hs h, List.getElem?_eq_getElem h]
  simp
theorem getR_not {d : Bool} {l : List Pr} {k : Int} (h : ∀ p ∈ l, p.1 ≠ k) : getR d l k = (⟨#[]⟩, false) := by
  unfold getR
  split
  · rename_i p hp
    rw [if_neg (h p (List.mem_of_getElem? hp))]
  · rfl
def delR (l : List Pr) (k : Int) : List Pr := l.filter fun p => decide (p.1 ≠ k)
theorem delR_srt {d : Bool} {l : List Pr} (h : Srt d l) (k : Int) : Srt d (delR l k) := List.Pairwise.sublist List.filter_sublist h
theorem mem_delR {l : List Pr} {k : Int} {p : Pr} : p ∈ delR l k ↔ p ∈ l ∧ p.1 ≠ k := by unfold delR; simp
theorem delR_len (l : List Pr) (k : Int) : (delR l k).length ≤ l.length := List.length_filter_le _ _
def insR (d : Bool) (l : List Pr) (k : Int) (v : ByteArray) : List Pr := l.take (rank d l k) ++ (k, v) :: l.drop (rank d l k)
def setR (d : Bool) (l : List Pr) (k : Int) (v : ByteArray) : List Pr := insR d (delR l k) k v
theorem mem_insR {d : Bool} {l : List Pr} {k : Int} {v : ByteArray} {p : Pr} : p ∈ insR d l k v ↔ p = (k, v) ∨ p ∈ l := by
  unfold insR
  rw [List.mem_append, List.mem_cons]
  constructor
  · rintro (h | h | h)
    · exact .inr (List.mem_of_mem_take h)
    · exact .inl h
    · exact .inr (List.mem_of_mem_drop h)
  · rintro (h | h)
    · exact .inr (.inl h)
    · have := List.take_append_drop (rank d l k) l
      rw [← this] at h
      rcases List.mem_append.1 h with h | h
      · exact .inl h
      · exact .inr (.inr h)
theorem mem_setR {d : Bool} {l : List Pr} {k : Int} {v : ByteArray} {p : Pr} : p ∈ setR d l k v ↔ p = (k, v) ∨ (p ∈ l ∧ p.1 ≠ k) := by
  unfold setR; rw [mem_insR, mem_delR]
theorem insR_srt {d : Bool} {l : List Pr} {k : Int} (v : ByteArray) (hs : Srt d l) (hk : ∀ p ∈ l, p.1 ≠ k) : Srt d (insR d l k v) := by
  unfold insR Srt
  rw [List.pairwise_append]
  refine ⟨List.Pairwise.sublist (List.take_sublist _ _) hs, ?_, ?_⟩
  · rw [List.pairwise_cons]
    refine ⟨fun p hp => ?_, List.Pairwise.sublist (List.drop_sublist _ _) hs⟩
    obtain ⟨i, hi, rfl⟩ := List.mem_iff_getElem.1 hp
    rw [List.length_drop] at hi
    rw [List.getElem_drop]
    have h1 := rank_hi (k := k) hs (i := rank d l k + i) (by omega) (by omega)
    have h2 := hk _ (List.getElem_mem (show rank d l k + i < l.length by omega))
    rcases h3 : bef d k l[rank d l k + i].1 with _ | _
    · exact absurd (bef_tri h1 h3) h2
    · first | exact h3 | rfl
  · intro a ha b hb
    obtain ⟨i, hi, rfl⟩ := List.mem_iff_getElem.1 ha
    rw [List.length_take] at hi
    rw [List.getElem_take]
    have h1 : bef d l[i].1 k = true := rank_lo (by omega) (by omega)
    rcases List.mem_cons.1 hb with rfl | hb
    · exact h1
    · obtain ⟨j, hj, rfl⟩ := List.mem_iff_getElem.1 hb
      rw [List.length_drop] at hj
      rw [List.getElem_drop]
      exact List.pairwise_iff_getElem.1 hs i (rank d l k + j) (by omega) (by omega) (by omega)
theorem setR_srt {d : Bool} {l : List Pr} (k : Int) (v : ByteArray) (hs : Srt d l) : Srt d (setR d l k v) :=
  insR_srt v (delR_srt hs k) fun p hp => (mem_delR.1 hp).2
/-- Two lists in the order with the same pairs are one. -/
theorem srt_ext {d : Bool} : ∀ {l m : List Pr}, Srt d l → Srt d m → (∀ x, x ∈ l ↔ x ∈ m) → l = m
  | [], [], _, _, _ => rfl
  | [], b :: m, _, _, h => absurd ((h b).2 (by simp)) (by simp)
  | a :: l, [], _, _, h => absurd ((h a).1 (by simp)) (by simp)
  | a :: l, b :: m, hl, hm, h => by
    unfold Srt at hl hm
    rw [List.pairwise_cons] at hl hm
    have hab : a = b := by
      rcases List.mem_cons.1 ((h a).1 (by simp)) with e | e
      · exact e
      · rcases List.mem_cons.1 ((h b).2 (by simp)) with e2 | e2
        · exact e2.symm
        · have h1 := hm.1 a e
          have h2 := hl.1 b e2
          rw [bef_asymm h1] at h2
          cases h2
    subst hab
    congr 1
    refine srt_ext hl.2 hm.2 fun x => ?_
    have h1 : x ∈ l → x ≠ a := fun hx e => by subst e; exact absurd rfl (bef_ne (hl.1 x hx))
    have h2 : x ∈ m → x ≠ a := fun hx e => by subst e; exact absurd rfl (bef_ne (hm.1 x hx))
    constructor
    · intro hx
      exact (List.mem_cons.1 ((h x).1 (List.mem_cons_of_mem _ hx))).resolve_left (h1 hx)
    · intro hx
      exact (List.mem_cons.1 ((h x).2 (List.mem_cons_of_mem _ hx))).resolve_left (h2 hx)
/-- Setting a key that is there. -/
theorem setR_there {d : Bool} {l : List Pr} (hs : Srt d l) {i : Nat} (h : i < l.length) (v : ByteArray) : setR d l l[i].1 v = l.set i (l[i].1, v) := by
  refine srt_ext (setR_srt _ _ hs) ?_ fun x => ?_
  · unfold Srt
    rw [List.pairwise_iff_getElem]
    intro a b ha hb hab
    rw [List.length_set] at ha hb
    have := List.pairwise_iff_getElem.1 hs a b ha hb hab
    simp only [List.getElem_set]
    split <;> split <;> simp_all
  · rw [mem_setR]
    constructor
    · rintro (rfl | ⟨hx, hne⟩)
      · exact List.mem_iff_getElem.2 ⟨i, by simpa using h, by simp⟩
      · obtain ⟨j, hj, rfl⟩ := List.mem_iff_getElem.1 hx
        have hij : i ≠ j := by rintro rfl; exact hne rfl
        exact List.mem_iff_getElem.2 ⟨j, by simpa using hj, by simp [hij]⟩
    · intro hx
      obtain ⟨j, hj, rfl⟩ := List.mem_iff_getElem.1 hx
      rw [List.length_set] at hj
      simp only [List.getElem_set]
      split
      · exact .inl rfl
      · rename_i hij
        refine .inr ⟨List.getElem_mem hj, ?_⟩
        rcases Nat.lt_or_gt_of_ne hij with h2 | h2
        · exact (bef_ne (List.pairwise_iff_getElem.1 hs i j h hj h2)).symm
        · exact bef_ne (List.pairwise_iff_getElem.1 hs j i hj h h2)
/-- Setting a key that is not there. -/
theorem setR_new {d : Bool} {l : List Pr} {k : Int} (h : ∀ p ∈ l, p.1 ≠ k) (v : ByteArray) : setR d l k v = insR d l k v := by
  unfold setR
  rw [show delR l k = l from List.filter_eq_self.2 fun p hp => by simpa using h p hp]
/-- Taking a key away. -/
theorem delR_there {d : Bool} {l : List Pr} (hs : Srt d l) {i : Nat} (h : i < l.length) : delR l l[i].1 = l.take i ++ l.drop (i + 1) := by
  have hn : ∀ j (hj : j < l.length), j ≠ i → l[j].1 ≠ l[i].1 := fun j hj hji => by
    rcases Nat.lt_or_gt_of_ne hji with h2 | h2
    · exact bef_ne (List.pairwise_iff_getElem.1 hs j i hj h h2)
    · exact (bef_ne (List.pairwise_iff_getElem.1 hs i j h hj h2)).symm
  generalize hk : l[i].1 = k at *
  have e : l = l.take i ++ l[i] :: l.drop (i + 1) := by rw [← List.drop_eq_getElem_cons h, List.take_append_drop]
  conv => lhs; rw [e]
  unfold delR
  rw [List.filter_append, List.filter_cons]
  rw [if_neg (by simp [hk])]
  congr 1
  · refine List.filter_eq_self.2 fun p hp => ?_
    obtain ⟨j, hj, rfl⟩ := List.mem_iff_getElem.1 hp
    rw [List.length_take] at hj
    rw [List.getElem_take]
    simpa using hn j (by omega) (by omega)
  · refine List.filter_eq_self.2 fun p hp => ?_
    obtain ⟨j, hj, rfl⟩ := List.mem_iff_getElem.1 hp
    rw [List.length_drop] at hj
    rw [List.getElem_drop]
    simpa using hn (i + 1 + j) (by omega) (by omega)
theorem delR_not {l : List Pr} {k : Int} (h : ∀ p ∈ l, p.1 ≠ k) : delR l k = l := List.filter_eq_self.2 fun p hp => by simpa using h p hp
/-- Whether a key is there, by its rank. -/
theorem there_iff {d : Bool} {l : List Pr} (hs : Srt d l) {k : Int} : (∃ p ∈ l, p.1 = k) ↔ ∃ h : rank d l k < l.length, l[rank d l k].1 = k := by
  constructor
  · rintro ⟨p, hp, rfl⟩
    obtain ⟨i, hi, rfl⟩ := List.mem_iff_getElem.1 hp
    have := rank_self hs hi
    exact ⟨by omega, by simp only [this]⟩
  · rintro ⟨h, e⟩
    exact ⟨_, List.getElem_mem h, e⟩
/-- Setting all pairs of a list, in any order. -/
theorem foldl_set_mem {d : Bool} : ∀ (xs l : List Pr) (p : Pr), (xs.Pairwise fun a b => a.1 ≠ b.1) → (p ∈ xs.foldl (fun m q => setR d m q.1 q.2) l ↔ p ∈ xs ∨ (p ∈ l ∧ ∀ q ∈ xs, p.1 ≠ q.1))
  | [], l, p, _ => by simp
  | x :: xs, l, p, h => by
    rw [List.pairwise_cons] at h
    rw [List.foldl_cons, foldl_set_mem xs _ p h.2, mem_setR]
    constructor
    · rintro (h1 | ⟨rfl | ⟨h1, h2⟩, h3⟩)
      · exact .inl (List.mem_cons_of_mem _ h1)
      · exact .inl (by simp)
      · refine .inr ⟨h1, fun q hq => ?_⟩
        rcases List.mem_cons.1 hq with rfl | hq
        · exact h2
        · exact h3 q hq
    · rintro (h1 | ⟨h1, h2⟩)
      · rcases List.mem_cons.1 h1 with rfl | h1
        · exact .inr ⟨.inl rfl, fun q hq => h.1 q hq⟩
        · exact .inl h1
      · exact .inr ⟨.inr ⟨h1, h2 x (by simp)⟩, fun q hq => h2 q (List.mem_cons_of_mem _ hq)⟩
theorem foldl_set_srt {d : Bool} : ∀ (xs : List Pr) {l : List Pr}, Srt d l → Srt d (xs.foldl (fun m q => setR d m q.1 q.2) l)
  | [], l, h => h
  | x :: xs, l, h => by rw [List.foldl_cons]; exact foldl_set_srt xs (setR_srt _ _ h)
end Go.Proofs.Ytmmcnpcijeahcaa.J
