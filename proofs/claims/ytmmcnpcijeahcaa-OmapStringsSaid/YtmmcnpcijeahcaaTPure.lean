/-
  Ordered maps, plainly: pairs of a number and a string in the order of the numbers, or the other way round.
-/
import Derived.WalkKit
namespace Go.Proofs.Ytmmcnpcijeahcaa.Jt
set_option linter.unusedVariables false

/-- A key: a string that is not long. -/
structure Ky where
  s : ByteArray
  h : s.size ≤ 1000
/-- A value: where a slice lies, how long it is, how much it may hold. -/
structure Sl where
  (a : Option Addr) (n c : Nat)
/-- A key with its value. -/
abbrev Pr := Ky × Sl
/-- Whether a key comes before another one. -/
def bef (d : Bool) (a b : Ky) : Bool := decide (a.s.size < b.s.size)
theorem bef_iff {d : Bool} {a b : Ky} : bef d a b = true ↔ a.s.size < b.s.size := by unfold bef; simp
theorem bef_irr (d : Bool) (a : Ky) : bef d a a = false := by unfold bef; simp
theorem bef_trans {d : Bool} {a b c : Ky} (h : bef d a b = true) (k : bef d b c = true) : bef d a c = true := by
  rw [bef_iff] at *; omega
theorem bef_asymm {d : Bool} {a b : Ky} (h : bef d a b = true) : bef d b a = false := by
  rw [← Bool.not_eq_true, bef_iff]; rw [bef_iff] at h; omega
theorem bef_tri {d : Bool} {a b : Ky} (h : bef d a b = false) (k : bef d b a = false) : a.s.size = b.s.size := by
  rw [← Bool.not_eq_true, bef_iff] at *; omega
/-- The pairs are in the order. -/
def Srt (d : Bool) (l : List Pr) : Prop := l.Pairwise fun a b => bef d a.1 b.1 = true
/-- How many keys come before a key. -/
def rank (d : Bool) (l : List Pr) (k : Ky) : Nat := (l.takeWhile fun p => bef d p.1 k).length
theorem rank_le (d : Bool) (l : List Pr) (k : Ky) : rank d l k ≤ l.length := by
  unfold rank
  induction l with
  | nil => simp
  | cons a t ih =>
    simp only [List.takeWhile_cons]
    split
    · simp only [List.length_cons]; omega
    · simp
theorem rank_lo {d : Bool} {k : Ky} : ∀ {l : List Pr} {i : Nat} (h : i < l.length), i < rank d l k → bef d l[i].1 k = true
  | a :: t, 0, h, hi => by
    simp only [rank, List.takeWhile_cons] at hi
    split at hi
    · assumption
    · simp at hi
  | a :: t, i + 1, h, hi => by
    simp only [rank, List.takeWhile_cons] at hi
    split at hi
    · exact rank_lo (l := t) (by simpa using h) (by simpa [rank] using hi)
    · simp at hi
theorem rank_at {d : Bool} {k : Ky} : ∀ {l : List Pr} (h : rank d l k < l.length), bef d l[rank d l k].1 k = false
  | [], h => by simp at h
  | a :: t, h => by
    rcases ha : bef d a.1 k with _ | _
    · have e : rank d (a :: t) k = 0 := by simp [rank, ha]
      simp only [e, List.getElem_cons_zero, ha]
    · have e : rank d (a :: t) k = rank d t k + 1 := by simp [rank, ha]
      simp only [e, List.getElem_cons_succ]
      exact rank_at (l := t) (by rw [e] at h; simpa using h)
theorem rank_hi {d : Bool} {k : Ky} {l : List Pr} (hs : Srt d l) {i : Nat} (h : i < l.length) (hi : rank d l k ≤ i) : bef d l[i].1 k = false := by
  have h0 : rank d l k < l.length := by omega
  have h1 := rank_at (d := d) (k := k) (l := l) h0
  rcases Nat.lt_or_eq_of_le hi with h2 | h2
  · have h3 := List.pairwise_iff_getElem.1 hs (rank d l k) i h0 h h2
    rw [← Bool.not_eq_true]
    intro h4
    rw [bef_trans h3 h4] at h1
    cases h1
  · simpa only [h2] using h1
/-- What a search finds is the rank. -/
theorem rank_eq {d : Bool} {k : Ky} {l : List Pr} {i : Nat} (hi : i ≤ l.length) (h1 : ∀ j (hj : j < l.length), j < i → bef d l[j].1 k = true) (h2 : ∀ hj : i < l.length, bef d l[i].1 k = false) : rank d l k = i := by
  rcases Nat.lt_trichotomy (rank d l k) i with h | h | h
  · have := h1 (rank d l k) (by omega) h
    rw [rank_at (by omega)] at this
    cases this
  · exact h
  · have hl := rank_le d l k
    have := rank_lo (d := d) (k := k) (l := l) (i := i) (by omega) h
    rw [h2 (by omega)] at this
    cases this
theorem rank_self {d : Bool} {l : List Pr} (hs : Srt d l) {i : Nat} (h : i < l.length) : rank d l l[i].1 = i :=
  rank_eq (by omega) (fun j hj hji => List.pairwise_iff_getElem.1 hs j i hj h hji) fun _ => bef_irr _ _
end Go.Proofs.Ytmmcnpcijeahcaa.Jt
