/-
  Nodes, plainly: which are valid, which stand before others, which agree, what they are merged to.
-/
import Derived.Test.YtfmlenhakejefaaMDText
import Derived.Test.YtfmlenhakejefaaRHex
import Derived.Test.YtfmlenhakejefaaVPure
import Derived.Test.YtfmlenhakejefaaMRUtf

section
namespace Go.Proofs.Ytfmlenhakejefaa.Nd
set_option linter.unusedVariables false
open D

/-- A node: its dot, its parent, its time, its rune. -/
abbrev Nt := Dt × Dt × Int × Int
def zeroN : Nt := ((0, 0), (0, 0), 0, 0)
def validN (n : Nt) : Bool := validR n.1 && (rootR n.2.1 || validR n.2.1) && !decide (n.2.1 = n.1) && decide (1 ≤ n.2.2.1) && decide (n.2.2.1 ≤ 4611686018427387904) && (decide (n.2.2.2 = 0) || R.vld n.2.2.2)
def VN (n : Nt) : Prop := validR n.1 = true ∧ named n.2.1 ∧ n.2.1 ≠ n.1 ∧ 1 ≤ n.2.2.1 ∧ n.2.2.1 ≤ 4611686018427387904 ∧ (n.2.2.2 = 0 ∨ R.vld n.2.2.2 = true)
theorem valid_vn {n : Nt} : validN n = true ↔ VN n := by
  unfold validN VN named
  simp only [Bool.and_eq_true, Bool.or_eq_true, Bool.not_eq_true', decide_eq_true_eq, decide_eq_false_iff_not]
  constructor
  · rintro ⟨⟨⟨⟨⟨h1, h2⟩, h3⟩, h4⟩, h5⟩, h6⟩
    exact ⟨h1, h2.symm, h3, h4, h5, h6⟩
  · rintro ⟨h1, h2, h3, h4, h5, h6⟩
    exact ⟨⟨⟨⟨⟨h1, h2.symm⟩, h3⟩, h4⟩, h5⟩, h6⟩
def killN (n : Nt) : Nt := (n.1, n.2.1, n.2.2.1, 0)
def deadN (n : Nt) : Bool := decide (n.2.2.2 = 0)
def beforeN (a b : Nt) : Bool := if a.2.2.1 = b.2.2.1 then less b.1 a.1 else decide (b.2.2.1 < a.2.2.1)
def agreeN (a b : Nt) : Bool := decide (a.1 = b.1) && decide (a.2.1 = b.2.1) && decide (a.2.2.1 = b.2.2.1) && (decide (a.2.2.2 = b.2.2.2) || decide (a.2.2.2 = 0) || decide (b.2.2.2 = 0))
def mergeN (a b : Nt) : Nt × Int := if (validN a && validN b) = true then (if agreeN a b = true then (if b.2.2.2 = 0 then b else a, 0) else (zeroN, 15)) else (zeroN, 2)
theorem agree_iff {a b : Nt} : agreeN a b = true ↔ a.1 = b.1 ∧ a.2.1 = b.2.1 ∧ a.2.2.1 = b.2.2.1 ∧ (a.2.2.2 = b.2.2.2 ∨ a.2.2.2 = 0 ∨ b.2.2.2 = 0) := by
  unfold agreeN
  simp only [Bool.and_eq_true, Bool.or_eq_true, decide_eq_true_eq]
  constructor
  · rintro ⟨⟨⟨h1, h2⟩, h3⟩, (h4 | h4) | h4⟩
    · exact ⟨h1, h2, h3, .inl h4⟩
    · exact ⟨h1, h2, h3, .inr (.inl h4)⟩
    · exact ⟨h1, h2, h3, .inr (.inr h4)⟩
  · rintro ⟨h1, h2, h3, h4 | h4 | h4⟩
    · exact ⟨⟨⟨h1, h2⟩, h3⟩, .inl (.inl h4)⟩
    · exact ⟨⟨⟨h1, h2⟩, h3⟩, .inl (.inr h4)⟩
    · exact ⟨⟨⟨h1, h2⟩, h3⟩, .inr h4⟩
theorem node_ext {a b : Nt} (h1 : a.1 = b.1) (h2 : a.2.1 = b.2.1) (h3 : a.2.2.1 = b.2.2.1) (h4 : a.2.2.2 = b.2.2.2) : a = b := Prod.ext h1 (Prod.ext h2 (Prod.ext h3 h4))

/-! ### Before -/
theorem before_iff {a b : Nt} : beforeN a b = true ↔ b.2.2.1 < a.2.2.1 ∨ (a.2.2.1 = b.2.2.1 ∧ less b.1 a.1 = true) := by
  unfold beforeN
  split
  · rename_i h
    exact ⟨fun k => .inr ⟨h, k⟩, fun k => k.elim (fun k => absurd h (by omega)) (·.2)⟩
  · rename_i h
    rw [decide_eq_true_eq]
    exact ⟨.inl, fun k => k.elim id fun k => absurd k.1 h⟩
theorem before_irr (a : Nt) : beforeN a a = false := by
  rw [← Bool.not_eq_true, before_iff]
  rintro (h | ⟨_, h⟩)
  · omega
  · rw [less_irr] at h; cases h
theorem before_trans {a b c : Nt} (h : beforeN a b = true) (k : beforeN b c = true) : beforeN a c = true := by
  rw [before_iff] at *
  rcases h with h | ⟨h1, h2⟩ <;> rcases k with k | ⟨k1, k2⟩
  · left; omega
  · left; omega
  · left; omega
  · right; exact ⟨by omega, less_trans k2 h2⟩
theorem before_asymm {a b : Nt} (h : beforeN a b = true) : beforeN b a = false := by
  rw [← Bool.not_eq_true]
  intro k
  have := before_trans h k
  rw [before_irr] at this; cases this
/-- Of two nodes with different times or dots just one stands before the other one. -/
theorem before_one (a b : Nt) : (beforeN a b || beforeN b a) = (!decide (a.2.2.1 = b.2.2.1) || !decide (a.1 = b.1)) := by
  rw [Bool.eq_iff_iff]
  simp only [Bool.or_eq_true, before_iff, Bool.not_eq_true', decide_eq_false_iff_not]
  constructor
  · rintro ((h | ⟨h1, h2⟩) | (h | ⟨h1, h2⟩))
    · left; omega
    · right; exact fun e => less_ne h2 e.symm
    · left; omega
    · right; exact fun e => less_ne h2 e
  · intro h
    by_cases ht : a.2.2.1 = b.2.2.1
    · have hd : a.1 ≠ b.1 := h.elim (fun k => absurd ht k) id
      rcases h1 : less b.1 a.1 with _ | _
      · rcases h2 : less a.1 b.1 with _ | _
        · exact absurd (less_tri h2 h1) hd
        · exact .inr (.inr ⟨ht.symm, rfl⟩)
      · exact .inl (.inr ⟨ht, rfl⟩)
    · rcases Int.lt_or_lt_of_ne ht with k | k
      · exact .inr (.inl k)
      · exact .inl (.inl k)

/-! ### Merge -/
theorem agree_comm (a b : Nt) : agreeN a b = agreeN b a := by
  rw [Bool.eq_iff_iff, agree_iff, agree_iff]
  constructor
  · rintro ⟨h1, h2, h3, h4⟩
    exact ⟨h1.symm, h2.symm, h3.symm, h4.elim (fun h => .inl h.symm) fun h => .inr h.symm⟩
  · rintro ⟨h1, h2, h3, h4⟩
    exact ⟨h1.symm, h2.symm, h3.symm, h4.elim (fun h => .inl h.symm) fun h => .inr h.symm⟩
theorem pick_comm {a b : Nt} (h : agreeN a b = true) : (if b.2.2.2 = 0 then b else a) = if a.2.2.2 = 0 then a else b := by
  obtain ⟨h1, h2, h3, h4⟩ := agree_iff.1 h
  by_cases ha : a.2.2.2 = 0 <;> by_cases hb : b.2.2.2 = 0
  · rw [if_pos ha, if_pos hb]; exact (node_ext h1 h2 h3 (ha.trans hb.symm)).symm
  · rw [if_pos ha, if_neg hb]
  · rw [if_neg ha, if_pos hb]
  · rw [if_neg ha, if_neg hb]
    exact node_ext h1 h2 h3 (h4.elim id fun h => h.elim (fun h => absurd h ha) fun h => absurd h hb)
theorem merge_comm (a b : Nt) : mergeN a b = mergeN b a := by
  unfold mergeN
  rw [Bool.and_comm, agree_comm]
  split
  · split
    · rename_i _ h
      rw [pick_comm (by rw [agree_comm]; exact h)]
    · rfl
  · rfl
theorem agree_self (a : Nt) : agreeN a a = true := agree_iff.2 ⟨rfl, rfl, rfl, .inl rfl⟩
theorem merge_self {a : Nt} (h : validN a = true) : mergeN a a = (a, 0) := by
  unfold mergeN
  rw [h, agree_self, Bool.and_self, if_pos rfl, if_pos rfl]
  split <;> rfl
theorem merge_yes {a b : Nt} (h : (mergeN a b).2 = 0) : validN a = true ∧ validN b = true ∧ agreeN a b = true ∧ (mergeN a b).1 = if b.2.2.2 = 0 then b else a := by
  unfold mergeN at h ⊢
  split at h
  · rename_i hv
    split at h
    · rename_i ha
      rw [if_pos hv, if_pos ha]
      rw [Bool.and_eq_true] at hv
      exact ⟨hv.1, hv.2, ha, rfl⟩
    · cases h
  · cases h
theorem merge_code (a b : Nt) : (mergeN a b).2 = 0 ∨ (mergeN a b).1 = zeroN ∧ ((mergeN a b).2 = 2 ∨ (mergeN a b).2 = 15) := by
  unfold mergeN
  split
  · split
    · exact .inl rfl
    · exact .inr ⟨rfl, .inr rfl⟩
  · exact .inr ⟨rfl, .inl rfl⟩
theorem merge_dead {a b : Nt} (h : (mergeN a b).2 = 0) : deadN (mergeN a b).1 = (deadN a || deadN b) ∧ validN (mergeN a b).1 = true := by
  obtain ⟨h1, h2, h3, h4⟩ := merge_yes h
  rw [h4]
  unfold deadN
  by_cases hb : b.2.2.2 = 0
  · rw [if_pos hb]; exact ⟨by simp [hb], h2⟩
  · rw [if_neg hb]; exact ⟨by simp [hb], h1⟩
theorem merge_agree {a b c : Nt} (hab : agreeN a b = true) (hbc : agreeN b c = true) (hac : agreeN a c = true) : agreeN (if b.2.2.2 = 0 then b else a) c = true := by
  split
  · exact hbc
  · exact hac
/-- How three nodes are grouped does not matter. -/
theorem merge_assoc {a b c : Nt} (h1 : (mergeN a b).2 = 0) (h2 : (mergeN b c).2 = 0) (h3 : (mergeN a c).2 = 0) :
    (mergeN (mergeN a b).1 c).2 = 0 ∧ mergeN a (mergeN b c).1 = mergeN (mergeN a b).1 c := by
  obtain ⟨va, vb, hab, e1⟩ := merge_yes h1
  obtain ⟨-, vc, hbc, e2⟩ := merge_yes h2
  obtain ⟨-, -, hac, e3⟩ := merge_yes h3
  have v1 := (merge_dead h1).2
  have v2 := (merge_dead h2).2
  have g1 := merge_agree hab hbc hac
  have g2 : agreeN a (if c.2.2.2 = 0 then c else b) = true := by
    split
    · exact hac
    · exact hab
  have m1 : mergeN (mergeN a b).1 c = (if c.2.2.2 = 0 then c else if b.2.2.2 = 0 then b else a, 0) := by
    rw [e1] at v1 ⊢
    unfold mergeN
    rw [v1, vc, g1, Bool.and_self, if_pos rfl, if_pos rfl]
  have m2 : mergeN a (mergeN b c).1 = (if (if c.2.2.2 = 0 then c else b).2.2.2 = 0 then (if c.2.2.2 = 0 then c else b) else a, 0) := by
    rw [e2] at v2 ⊢
    unfold mergeN
    rw [va, v2, g2, Bool.and_self, if_pos rfl, if_pos rfl]
  rw [m1, m2]
  refine ⟨rfl, ?_⟩
  by_cases hc : c.2.2.2 = 0
  · simp [hc]
  · by_cases hb : b.2.2.2 = 0 <;> simp [hc, hb]

/-! ### What is written -/
theorem dig_range (u : Nat) : ∀ c ∈ Lib.decDigits u, 48 ≤ c.toNat ∧ c.toNat ≤ 57 := by
  induction u using Nat.strongRecOn with
  | _ u ih =>
    intro c hc
    by_cases h : u < 10
    · rw [dig_small h] at hc
      rw [List.mem_singleton.1 hc, dig_nat h]
      omega
    · rw [dig_big h] at hc
      rcases List.mem_append.1 hc with hc | hc
      · exact ih (u / 10) (by omega) c hc
      · rw [List.mem_singleton.1 hc, dig_nat (Nat.mod_lt _ (by omega))]
        omega
theorem dig_sp (u : Nat) : (32 : UInt8) ∉ Lib.decDigits u := fun h => absurd (dig_range u _ h).1 (by decide)
theorem txt_sp (d : Dt) : (32 : UInt8) ∉ txtD d := by
  intro hc
  unfold txtD at hc
  split at hc
  · simp [rootT] at hc
  · rcases List.mem_append.1 hc with hc | hc
    · rcases List.mem_append.1 hc with hc | hc
      · exact dig_sp _ hc
      · simp at hc
    · exact dig_sp _ hc
theorem du_sp (d : Nat) (h : d < 16) : R.du d ≠ 32 := by
  have : d = 0 ∨ d = 1 ∨ d = 2 ∨ d = 3 ∨ d = 4 ∨ d = 5 ∨ d = 6 ∨ d = 7 ∨ d = 8 ∨ d = 9 ∨ d = 10 ∨ d = 11 ∨ d = 12 ∨ d = 13 ∨ d = 14 ∨ d = 15 := by omega
  rcases this with rfl | rfl | rfl | rfl | rfl | rfl | rfl | rfl | rfl | rfl | rfl | rfl | rfl | rfl | rfl | rfl <;> decide
theorem nm_sp (n : Nat) : (32 : UInt8) ∉ R.nm n := by
  intro hc
  unfold R.nm at hc
  rcases List.mem_append.1 hc with hc | hc
  · rcases List.mem_append.1 hc with hc | hc
    · simp at hc
    · have := List.eq_of_mem_replicate hc
      exact absurd this (by decide)
  · obtain ⟨d, hd, e⟩ := List.mem_map.1 hc
    exact du_sp d (R.digs_lt n d hd) e
def runeT (r : Int) : List UInt8 := if r = 0 then [45] else R.nm r.toNat
theorem rune_sp (r : Int) : (32 : UInt8) ∉ runeT r := by
  unfold runeT
  split
  · simp
  · exact nm_sp _
def txtN (n : Nt) : List UInt8 := txtD n.1 ++ 32 :: (txtD n.2.1 ++ 32 :: (Lib.decDigits n.2.2.1.toNat ++ 32 :: runeT n.2.2.2))

/-! ### The parts between spaces -/
def wordsL : List UInt8 → List (List UInt8)
  | [] => [[]]
  | c :: t => if c = 32 then [] :: wordsL t else match wordsL t with | [] => [[c]] | x :: r => (c :: x) :: r
theorem words_ne : ∀ l, wordsL l ≠ []
  | [] => by simp [wordsL]
  | c :: t => by
    rw [wordsL]
    split
    · simp
    · split <;> simp
theorem words_app : ∀ (x y : List UInt8), (32 : UInt8) ∉ x → wordsL (x ++ 32 :: y) = x :: wordsL y
  | [], y, _ => by rw [List.nil_append, wordsL, if_pos rfl]
  | c :: t, y, h => by
    have hc : c ≠ 32 := fun e => h (by rw [e]; simp)
    rw [List.cons_append, wordsL, if_neg hc, words_app t y fun hh => h (by simp [hh])]
theorem words_one : ∀ (x : List UInt8), (32 : UInt8) ∉ x → wordsL x = [x]
  | [], _ => rfl
  | c :: t, h => by
    have hc : c ≠ 32 := fun e => h (by rw [e]; simp)
    rw [wordsL, if_neg hc, words_one t fun hh => h (by simp [hh])]
theorem words_txt (n : Nt) : wordsL (txtN n) = [txtD n.1, txtD n.2.1, Lib.decDigits n.2.2.1.toNat, runeT n.2.2.2] := by
  unfold txtN
  rw [words_app _ _ (txt_sp _), words_app _ _ (txt_sp _), words_app _ _ (dig_sp _), words_one _ (rune_sp _)]
theorem words_len : ∀ l : List UInt8, (wordsL l).length ≤ l.length + 1
  | [] => by simp [wordsL]
  | c :: t => by
    have ih := words_len t
    rw [wordsL]
    split
    · simp; omega
    · split
      · simp
      · rename_i h; rw [h] at ih; simp at ih ⊢; omega
/-- What a split into at most so many parts gives. -/
def splitW : Nat → List UInt8 → List (List UInt8)
  | 0, l => [l]
  | k + 1, l => if (32 : UInt8) ∈ l then l.takeWhile (· ≠ 32) :: splitW k ((l.dropWhile (· ≠ 32)).drop 1) else [l]
theorem at_space {l : List UInt8} (h : (32 : UInt8) ∈ l) : l = l.takeWhile (· ≠ 32) ++ 32 :: (l.dropWhile (· ≠ 32)).drop 1 ∧ (32 : UInt8) ∉ l.takeWhile (· ≠ 32) := by
  induction l with
  | nil => simp at h
  | cons c t ih =>
    by_cases hc : c = 32
    · subst hc
      simp
    · have ht : (32 : UInt8) ∈ t := by
        rcases List.mem_cons.1 h with e | e
        · exact absurd e.symm hc
        · exact e
      obtain ⟨i1, i2⟩ := ih ht
      rw [List.takeWhile_cons, List.dropWhile_cons, if_pos (by simpa using hc), if_pos (by simpa using hc)]
      exact ⟨by rw [List.cons_append, ← i1], fun hh => (List.mem_cons.1 hh).elim (fun e => hc e.symm) i2⟩
theorem splitW_words : ∀ (k : Nat) (l : List UInt8), splitW k l = wordsL l ∨ ((splitW k l).length = k + 1 ∧ k + 1 < (wordsL l).length)
  | 0, l => by
    rw [splitW]
    by_cases h : (32 : UInt8) ∈ l
    · right
      obtain ⟨e, hn⟩ := at_space h
      have hw : wordsL l = l.takeWhile (· ≠ 32) :: wordsL ((l.dropWhile (· ≠ 32)).drop 1) := by
        conv => lhs; rw [e]
        exact words_app _ _ hn
      rw [hw]
      have h1 : 0 < (wordsL ((l.dropWhile (· ≠ 32)).drop 1)).length := List.length_pos_iff.2 (words_ne _)
      exact ⟨rfl, by rw [List.length_cons]; omega⟩
    · left; exact (words_one l h).symm
  | k + 1, l => by
    rw [splitW]
    by_cases h : (32 : UInt8) ∈ l
    · rw [if_pos h]
      obtain ⟨e, hn⟩ := at_space h
      have hw : wordsL l = l.takeWhile (· ≠ 32) :: wordsL ((l.dropWhile (· ≠ 32)).drop 1) := by
        conv => lhs; rw [e]
        exact words_app _ _ hn
      rcases splitW_words k ((l.dropWhile (· ≠ 32)).drop 1) with ih | ⟨i1, i2⟩
      · left; rw [hw, ih]
      · right; rw [hw]; simp only [List.length_cons]; omega
    · rw [if_neg h]
      left; exact (words_one l h).symm

/-! ### What is read -/
/-- The reference's number. -/
def tR : Nat → List UInt8 → Nat
  | n, [] => n
  | n, c :: t => if c.toNat < 48 ∨ 57 < c.toNat ∨ 461168601842738790 < n then 0 else tR (10 * n + c.toNat - 48) t
theorem tR_dig (a : Nat) : ∀ (t : List UInt8), a ≤ 4611686018427387909 → tR 0 (Lib.decDigits a ++ t) = tR a t := by
  induction a using Nat.strongRecOn with
  | _ a ih =>
    intro t ha
    by_cases h : a < 10
    · rw [dig_small h, List.singleton_append, tR, dig_nat h, if_neg (by omega)]
      congr 1
      omega
    · rw [dig_big h, List.append_assoc, ih (a / 10) (by omega) _ (by omega), List.singleton_append, tR, dig_nat (Nat.mod_lt _ (by omega)), if_neg (by omega)]
      congr 1
      omega
theorem tR_txt {a : Nat} (h : a ≤ 4611686018427387904) : tR 0 (Lib.decDigits a) = a := by
  have := tR_dig a [] (by omega)
  rw [List.append_nil] at this
  rw [this, tR]
/-- The text of one node is no other one's. -/
theorem dig_inj {a b : Nat} (ha : a ≤ 4611686018427387904) (hb : b ≤ 4611686018427387904) (h : Lib.decDigits a = Lib.decDigits b) : a = b := by
  have := tR_txt ha
  rw [h, tR_txt hb] at this
  exact this.symm
theorem vld_nat {r : Int} (h : R.vld r = true) : ∃ n : Nat, r = (n : Int) ∧ R.vld (n : Int) = true ∧ n ≤ 1114111 ∧ 0 < n := by
  have k := R.vld_iff.1 h
  exact ⟨r.toNat, by omega, by rw [Int.toNat_of_nonneg (by omega)]; exact h, by omega, by omega⟩
theorem nm_inj {a b : Nat} (ha : a ≤ 1114111) (hb : b ≤ 1114111) (h : R.nm a = R.nm b) : a = b := by
  have h1 := (R.nm_pU a ha).2
  rw [h, (R.nm_pU b hb).2] at h1
  exact (Option.some.inj h1).symm
theorem nm_ne_dash {a : Nat} (h : a ≤ 1114111) : R.nm a ≠ [45] := by
  intro e
  have := (R.nm_len a h).1
  rw [e] at this
  simp at this
theorem rune_inj {r s : Int} (hr : r = 0 ∨ R.vld r = true) (hs : s = 0 ∨ R.vld s = true) (h : runeT r = runeT s) : r = s := by
  unfold runeT at h
  rcases hr with rfl | hr
  · rcases hs with rfl | hs
    · rfl
    · obtain ⟨n, rfl, -, hn, h0⟩ := vld_nat hs
      rw [if_pos rfl, if_neg (by omega), Int.toNat_natCast] at h
      exact absurd h.symm (nm_ne_dash hn)
  · obtain ⟨m, rfl, -, hm, hm0⟩ := vld_nat hr
    rw [if_neg (by omega), Int.toNat_natCast] at h
    rcases hs with rfl | hs
    · rw [if_pos rfl] at h
      exact absurd h (nm_ne_dash hm)
    · obtain ⟨n, rfl, -, hn, h0⟩ := vld_nat hs
      rw [if_neg (by omega), Int.toNat_natCast] at h
      rw [nm_inj hm hn h]
theorem txtN_inj {m n : Nt} (hm : VN m) (hn : VN n) (h : txtN m = txtN n) : m = n := by
  have e := words_txt m
  rw [h, words_txt n] at e
  simp only [List.cons.injEq, and_true] at e
  obtain ⟨e1, e2, e3, e4⟩ := e
  obtain ⟨m1, m2, m3, m4, m5, m6⟩ := hm
  obtain ⟨n1, n2, n3, n4, n5, n6⟩ := hn
  refine node_ext (txt_inj (.inl m1) (.inl n1) e1.symm) (txt_inj m2 n2 e2.symm) ?_ (rune_inj m6 n6 e4.symm)
  have := dig_inj (by omega) (by omega) e3
  omega
end Go.Proofs.Ytfmlenhakejefaa.Nd
end

/-
  Stores, plainly: lists of nodes whose dots increase; what stands at a dot; one more node; the store of some nodes.
-/
section
namespace Go.Proofs.Ytfmlenhakejefaa.Qs
set_option linter.unusedVariables false
open D Nd

def SrtN (l : List Nt) : Prop := l.Pairwise fun a b => less a.1 b.1 = true
def validS (l : List Nt) : Bool := l.all validN && isSetR (l.map (·.1))
theorem srt_map {l : List Nt} : Srt (l.map (·.1)) ↔ SrtN l := List.pairwise_map
theorem validS_iff {l : List Nt} : validS l = true ↔ (∀ x ∈ l, validN x = true) ∧ SrtN l := by
  unfold validS
  rw [Bool.and_eq_true, List.all_eq_true, isSet_iff, srt_map]
theorem validS_at {l : List Nt} (h1 : ∀ i (hi : i < l.length), validN l[i] = true) (h2 : ∀ i (hi : i + 1 < l.length), less l[i].1 l[i + 1].1 = true) : validS l = true := by
  unfold validS
  rw [Bool.and_eq_true, List.all_eq_true]
  refine ⟨fun x hx => ?_, isSet_at _ fun i hi => ?_⟩
  · obtain ⟨i, hi, rfl⟩ := List.mem_iff_getElem.1 hx
    exact h1 i hi
  · simp only [List.getElem_map]
    exact h2 i (by simpa using hi)
theorem validS_no1 {l : List Nt} (i : Nat) (hi : i < l.length) (h : validN l[i] = false) : validS l = false := by
  rw [← Bool.not_eq_true, validS_iff]
  intro k
  rw [k.1 _ (List.getElem_mem hi)] at h
  cases h
theorem validS_no2 {l : List Nt} (i : Nat) (hi : i + 1 < l.length) (h : less l[i].1 l[i + 1].1 = false) : validS l = false := by
  rw [← Bool.not_eq_true, validS_iff]
  intro k
  rw [List.pairwise_iff_getElem.1 k.2 i (i + 1) (by omega) hi (by omega)] at h
  cases h
/-! ### What stands at a dot -/
def atS (l : List Nt) (d : Dt) : Option Nt := l.find? fun n => decide (n.1 = d)
theorem at_some {l : List Nt} {d : Dt} {n : Nt} (h : atS l d = some n) : n ∈ l ∧ n.1 = d := ⟨List.mem_of_find?_eq_some h, by simpa using List.find?_some h⟩
theorem at_none {l : List Nt} {d : Dt} : atS l d = none ↔ ∀ n ∈ l, n.1 ≠ d := by unfold atS; rw [List.find?_eq_none]; simp
theorem at_mem {l : List Nt} (hs : SrtN l) {n : Nt} (hn : n ∈ l) : atS l n.1 = some n := by
  rcases h : atS l n.1 with _ | m
  · exact absurd rfl (at_none.1 h n hn)
  · obtain ⟨h1, h2⟩ := at_some h
    obtain ⟨i, hi, rfl⟩ := List.mem_iff_getElem.1 hn
    obtain ⟨j, hj, rfl⟩ := List.mem_iff_getElem.1 h1
    rcases Nat.lt_trichotomy i j with k | rfl | k
    · have := List.pairwise_iff_getElem.1 hs i j hi hj k
      exact absurd h2 (less_ne this).symm
    · rfl
    · have := List.pairwise_iff_getElem.1 hs j i hj hi k
      exact absurd h2 (less_ne this)
theorem at_iff {l : List Nt} (hs : SrtN l) {n : Nt} : n ∈ l ↔ atS l n.1 = some n := ⟨at_mem hs, fun h => (at_some h).1⟩
theorem srt_ext2 : ∀ {l m : List Nt}, SrtN l → SrtN m → (∀ x, x ∈ l ↔ x ∈ m) → l = m
  | [], [], _, _, _ => rfl
  | [], b :: m, _, _, h => absurd ((h b).2 (by simp)) (by simp)
  | a :: l, [], _, _, h => absurd ((h a).1 (by simp)) (by simp)
  | a :: l, b :: m, hl, hm, h => by
    unfold SrtN at hl hm
    rw [List.pairwise_cons] at hl hm
    have hab : a = b := by
      rcases List.mem_cons.1 ((h a).1 (by simp)) with e | e
      · exact e
      · rcases List.mem_cons.1 ((h b).2 (by simp)) with e2 | e2
        · exact e2.symm
        · have h1 := hm.1 a e
          have h2 := hl.1 b e2
          rw [less_asymm h1] at h2
          cases h2
    subst hab
    congr 1
    refine srt_ext2 hl.2 hm.2 fun x => ?_
    have h1 : x ∈ l → x ≠ a := fun hx e => by subst e; exact absurd rfl (less_ne (hl.1 x hx))
    have h2 : x ∈ m → x ≠ a := fun hx e => by subst e; exact absurd rfl (less_ne (hm.1 x hx))
    constructor
    · intro hx
      exact (List.mem_cons.1 ((h x).1 (List.mem_cons_of_mem _ hx))).resolve_left (h1 hx)
    · intro hx
      exact (List.mem_cons.1 ((h x).2 (List.mem_cons_of_mem _ hx))).resolve_left (h2 hx)
/-- Two stores with the same at each dot are one. -/
theorem at_ext {l m : List Nt} (hl : SrtN l) (hm : SrtN m) (h : ∀ d, atS l d = atS m d) : l = m := srt_ext2 hl hm fun x => by rw [at_iff hl, at_iff hm, h]
/-! ### One more node -/
def posS (l : List Nt) (d : Dt) : Nat := pos (l.map (·.1)) d
theorem posS_le (l : List Nt) (d : Dt) : posS l d ≤ l.length := by have := pos_le (l.map (·.1)) d; rw [List.length_map] at this; exact this
theorem posS_lt {l : List Nt} {d : Dt} {i : Nat} (hi : i < l.length) (h : i < posS l d) : less l[i].1 d = true := by
  have := pos_lt (s := l.map fun n : Nt => n.1) (d := d) (i := i) (by simpa using hi) h
  simpa using this
theorem posS_ge {l : List Nt} (hs : SrtN l) {d : Dt} {i : Nat} (hi : i < l.length) (h : posS l d ≤ i) : less l[i].1 d = false := by
  have h0 : posS l d < (l.map (·.1)).length := by rw [List.length_map]; omega
  have h1 : less (l[posS l d]'(by rw [List.length_map] at h0; exact h0)).1 d = false := by
    have h1 : less ((l.map fun n : Nt => n.1)[posS l d]'h0) d = false := pos_at (s := l.map fun n : Nt => n.1) (d := d) h0
    rw [List.getElem_map] at h1
    exact h1
  rcases Nat.lt_or_eq_of_le h with h2 | h2
  · have h3 := List.pairwise_iff_getElem.1 hs (posS l d) i (by omega) hi h2
    rw [← Bool.not_eq_true]
    intro h4
    have := less_trans h3 h4
    rw [h1] at this
    cases this
  · subst h2
    exact h1
/-- A store with another node at a dot, whatever it is. -/
def setS (l : List Nt) (n : Nt) : List Nt := l.take (posS l n.1) ++ n :: (l.drop (posS l n.1)).filter fun x => !decide (x.1 = n.1)
theorem mem_setS {l : List Nt} (hs : SrtN l) {n x : Nt} : x ∈ setS l n ↔ x = n ∨ (x ∈ l ∧ x.1 ≠ n.1) := by
  unfold setS
  rw [List.mem_append, List.mem_cons, List.mem_filter]
  constructor
  · rintro (h | h | ⟨h1, h2⟩)
    · obtain ⟨i, hi, rfl⟩ := List.mem_iff_getElem.1 h
      rw [List.length_take] at hi
      rw [List.getElem_take]
      exact .inr ⟨List.getElem_mem _, less_ne (posS_lt (by omega) (by omega))⟩
    · exact .inl h
    · exact .inr ⟨List.mem_of_mem_drop h1, by simpa using h2⟩
  · rintro (h | ⟨h1, h2⟩)
    · exact .inr (.inl h)
    · rw [← List.take_append_drop (posS l n.1) l] at h1
      rcases List.mem_append.1 h1 with h | h
      · exact .inl h
      · exact .inr (.inr ⟨h, by simpa using h2⟩)
theorem srt_setS {l : List Nt} (hs : SrtN l) (n : Nt) : SrtN (setS l n) := by
  unfold setS SrtN
  rw [List.pairwise_append]
  refine ⟨List.Pairwise.sublist (List.take_sublist _ _) hs, ?_, ?_⟩
  · rw [List.pairwise_cons]
    refine ⟨fun x hx => ?_, List.Pairwise.sublist List.filter_sublist (List.Pairwise.sublist (List.drop_sublist _ _) hs)⟩
    obtain ⟨h1, h2⟩ := List.mem_filter.1 hx
    obtain ⟨i, hi, rfl⟩ := List.mem_iff_getElem.1 h1
    rw [List.length_drop] at hi
    rw [List.getElem_drop] at h2 ⊢
    have h3 := posS_ge hs (d := n.1) (i := posS l n.1 + i) (by omega) (by omega)
    rcases h4 : less n.1 l[posS l n.1 + i].1 with _ | _
    · exact absurd (less_tri h3 h4) (by simpa using h2)
    · rfl
  · intro a ha b hb
    obtain ⟨i, hi, rfl⟩ := List.mem_iff_getElem.1 ha
    rw [List.length_take] at hi
    rw [List.getElem_take]
    have h1 : less l[i].1 n.1 = true := posS_lt (by omega) (by omega)
    rcases List.mem_cons.1 hb with rfl | hb
    · exact h1
    · obtain ⟨j, hj, rfl⟩ := List.mem_iff_getElem.1 (List.mem_filter.1 hb).1
      rw [List.length_drop] at hj
      rw [List.getElem_drop]
      exact List.pairwise_iff_getElem.1 hs i (posS l n.1 + j) (by omega) (by omega) (by omega)
theorem at_setS {l : List Nt} (hs : SrtN l) (n : Nt) (d : Dt) : atS (setS l n) d = if d = n.1 then some n else atS l d := by
  have h2 := srt_setS hs n
  split
  · rename_i h
    subst h
    exact at_mem h2 ((mem_setS hs).2 (.inl rfl))
  · rename_i h
    rcases hx : atS l d with _ | x
    · rw [at_none]
      intro y hy e
      rcases (mem_setS hs).1 hy with rfl | ⟨hy, -⟩
      · exact h e.symm
      · exact at_none.1 hx y hy e
    · obtain ⟨h3, rfl⟩ := at_some hx
      exact at_mem h2 ((mem_setS hs).2 (.inr ⟨h3, h⟩))
/-- One more node, or an error. -/
def putN (l : List Nt) (n : Nt) : List Nt × Int :=
  match atS l n.1 with
  | none => (setS l n, 0)
  | some r => if (mergeN r n).2 = 0 then (setS l (mergeN r n).1, 0) else ([], (mergeN r n).2)
theorem merge_dot {a b : Nt} (h : (mergeN a b).2 = 0) : (mergeN a b).1.1 = a.1 ∧ a.1 = b.1 := by
  obtain ⟨h1, h2, h3, h4⟩ := merge_yes h
  obtain ⟨k1, -⟩ := agree_iff.1 h3
  rw [h4]
  split
  · exact ⟨k1.symm, k1⟩
  · exact ⟨rfl, k1⟩
/-- What Put lays at the node's dot. -/
def upN (l : List Nt) (n : Nt) : Nt := match atS l n.1 with | none => n | some r => (mergeN r n).1
theorem put_yes {l : List Nt} {n : Nt} (h : (putN l n).2 = 0) : (putN l n).1 = setS l (upN l n) ∧ (upN l n).1 = n.1 := by
  unfold putN upN at *
  rcases hr : atS l n.1 with _ | r
  · exact ⟨rfl, rfl⟩
  · simp only [hr] at h ⊢
    by_cases hm : (mergeN r n).2 = 0
    · simp only [hm, if_true]
      exact ⟨by first | trivial | rfl, (merge_dot hm).1.trans (merge_dot hm).2⟩
    · simp only [hm, if_false] at h
theorem put_no {l : List Nt} {n : Nt} (h : (putN l n).2 ≠ 0) : (putN l n).1 = [] := by
  unfold putN at *
  rcases hr : atS l n.1 with _ | r
  · simp only [hr] at h; exact absurd rfl h
  · simp only [hr] at h ⊢
    by_cases hm : (mergeN r n).2 = 0
    · simp only [hm, if_true] at h; exact absurd rfl h
    · simp only [hm, if_false]
theorem put_at {l : List Nt} (hs : SrtN l) {n : Nt} (h : (putN l n).2 = 0) (d : Dt) : atS (putN l n).1 d = if d = n.1 then some (upN l n) else atS l d := by
  obtain ⟨h1, h2⟩ := put_yes h
  rw [h1, at_setS hs, h2]
theorem put_valid {l : List Nt} (hl : validS l = true) {n : Nt} (hn : validN n = true) (h : (putN l n).2 = 0) : validS (putN l n).1 = true := by
  obtain ⟨h1, h2⟩ := put_yes h
  obtain ⟨h3, h4⟩ := validS_iff.1 hl
  rw [h1, validS_iff]
  refine ⟨fun x hx => ?_, srt_setS h4 _⟩
  rcases (mem_setS h4).1 hx with rfl | ⟨hx, -⟩
  · unfold upN putN at *
    rcases hr : atS l n.1 with _ | r
    · exact hn
    · simp only [hr] at h ⊢
      by_cases hm : (mergeN r n).2 = 0
      · exact (merge_dead hm).2
      · simp only [hm, if_false] at h
  · exact h3 x hx
end Go.Proofs.Ytfmlenhakejefaa.Qs
end

/-
  Stores, plainly: the store of some nodes; the order of the nodes does not matter.
-/
section
namespace Go.Proofs.Ytfmlenhakejefaa.Qs
set_option linter.unusedVariables false
open D Nd

/-! ### What Put lays, written out -/
theorem setS_new {l : List Nt} {n : Nt} (h : atS l n.1 = none) : setS l n = l.take (posS l n.1) ++ n :: l.drop (posS l n.1) := by
  unfold setS
  rw [List.filter_eq_self.2 fun x hx => by simpa using at_none.1 h x (List.mem_of_mem_drop hx)]
theorem setS_old {l : List Nt} (hs : SrtN l) {n r : Nt} (h : atS l n.1 = some r) : ∃ hp : posS l n.1 < l.length, l[posS l n.1] = r ∧ setS l n = l.take (posS l n.1) ++ n :: l.drop (posS l n.1 + 1) := by
  obtain ⟨h1, h2⟩ := at_some h
  obtain ⟨i, hi, rfl⟩ := List.mem_iff_getElem.1 h1
  have e : posS l n.1 = i := by
    rcases Nat.lt_trichotomy (posS l n.1) i with k | k | k
    · have h3 := List.pairwise_iff_getElem.1 hs (posS l n.1) i (by omega) hi k
      have h4 := posS_ge hs (d := n.1) (i := posS l n.1) (by omega) (Nat.le_refl _)
      rw [h2] at h3
      rw [h3] at h4
      cases h4
    · exact k
    · have h3 := posS_lt hi k
      rw [h2, less_irr] at h3
      cases h3
  refine ⟨by omega, by simp only [e], ?_⟩
  unfold setS
  rw [e, List.drop_eq_getElem_cons hi, List.filter_cons, if_neg (by simp [h2])]
  rw [List.filter_eq_self.2 fun x hx => ?_]
  obtain ⟨j, hj, rfl⟩ := List.mem_iff_getElem.1 hx
  rw [List.length_drop] at hj
  rw [List.getElem_drop]
  have h3 := List.pairwise_iff_getElem.1 hs i (i + 1 + j) hi (by omega) (by omega)
  rw [h2] at h3
  simpa using (less_ne h3).symm
theorem setS_len {l : List Nt} (hs : SrtN l) (n : Nt) : (setS l n).length = if (atS l n.1).isSome then l.length else l.length + 1 := by
  have hp := posS_le l n.1
  rcases h : atS l n.1 with _ | r
  · rw [setS_new h, List.length_append, List.length_cons, List.length_take, List.length_drop]
    simp only [Option.isSome_none, Bool.false_eq_true, if_false]
    omega
  · obtain ⟨h1, -, h2⟩ := setS_old hs h
    rw [h2, List.length_append, List.length_cons, List.length_take, List.length_drop]
    simp only [Option.isSome_some, if_true]
    omega
theorem put_len {l : List Nt} (hs : SrtN l) {n : Nt} (h : (putN l n).2 = 0) : (putN l n).1.length = if (atS l n.1).isSome then l.length else l.length + 1 := by
  obtain ⟨h1, h2⟩ := put_yes h
  rw [h1, setS_len hs, h2]
/-- Put again changes nothing. -/
theorem put_again {l : List Nt} (hs : SrtN l) {n : Nt} (hv : validS l = true) (hn : validN n = true) (h : (putN l n).2 = 0) : putN (putN l n).1 n = ((putN l n).1, 0) := by
  have hs2 := (validS_iff.1 (put_valid hv hn h)).2
  have ha := put_at hs h n.1
  rw [if_pos rfl] at ha
  have hm : mergeN (upN l n) n = (upN l n, 0) := by
    have hu : validN (upN l n) = true := (validS_iff.1 (put_valid hv hn h)).1 _ (at_some ha).1
    unfold upN at hu ⊢
    rcases hr : atS l n.1 with _ | r
    · exact merge_self hn
    · simp only [hr] at hu ⊢
      have hm0 : (mergeN r n).2 = 0 := by
        unfold putN at h
        simp only [hr] at h
        by_cases hm : (mergeN r n).2 = 0
        · exact hm
        · simp only [hm, if_false] at h
      obtain ⟨v1, v2, ag, e⟩ := merge_yes hm0
      rw [e] at hu ⊢
      have ag2 : agreeN (if n.2.2.2 = 0 then n else r) n = true := by
        split
        · exact agree_self n
        · exact ag
      unfold mergeN
      rw [hu, hn, ag2, Bool.and_self, if_pos rfl, if_pos rfl]
      split <;> rfl
  have hp : (putN (putN l n).1 n).2 = 0 ∧ upN (putN l n).1 n = upN l n := by
    unfold putN upN at *
    constructor
    · simp only [ha, hm, if_true]
    · simp only [ha, hm]
  have e : (putN (putN l n).1 n).1 = (putN l n).1 := by
    refine at_ext ?_ hs2 fun d => ?_
    · obtain ⟨h1, -⟩ := put_yes hp.1
      rw [h1]
      exact srt_setS hs2 _
    · rw [put_at hs2 hp.1, hp.2]
      split
      · rename_i hd
        rw [hd, ha]
      · rfl
  exact Prod.ext e hp.1

/-! ### The store of some nodes -/
def agAll (l : List Nt) : Prop := ∀ a ∈ l, ∀ b ∈ l, a.1 = b.1 → agreeN a b = true
def agB : List Nt → Bool
  | [] => true
  | a :: t => (t.all fun b => !decide (a.1 = b.1) || agreeN a b) && agB t
theorem agB_iff : ∀ {l : List Nt}, agB l = true ↔ agAll l
  | [] => by simp [agB, agAll]
  | a :: t => by
    rw [agB, Bool.and_eq_true, agB_iff (l := t), List.all_eq_true]
    constructor
    · rintro ⟨h1, h2⟩ x hx y hy e
      rcases List.mem_cons.1 hx with rfl | hx <;> rcases List.mem_cons.1 hy with rfl | hy
      · exact agree_self _
      · have := h1 y hy
        simpa [e] using this
      · have h5 : x ∈ t := by assumption
        have := h1 x h5
        rw [agree_comm]
        simpa [e] using this
      · exact h2 x hx y hy e
    · intro h
      refine ⟨fun b hb => ?_, fun x hx y hy e => h x (by simp [hx]) y (by simp [hy]) e⟩
      by_cases e : a.1 = b.1
      · simp [e, h a (by simp) b (by simp [hb]) e]
      · simp [e]
def deadAt (l : List Nt) (d : Dt) : Bool := l.any fun n => decide (n.1 = d) && deadN n
theorem deadAt_iff {l : List Nt} {d : Dt} : deadAt l d = true ↔ ∃ n ∈ l, n.1 = d ∧ deadN n = true := by unfold deadAt; simp
/-- What all nodes with a dot are merged to. -/
def mg (l : List Nt) (d : Dt) : Option Nt := (atS l d).map fun a => if deadAt l d = true then killN a else a
def foldN (l : List Nt) (o : List Nt) : List Nt := l.foldl (fun o n => (putN o n).1) o
def ofN (l : List Nt) : List Nt × Int := if l.all validN = true then (if agB l = true then (foldN l [], 0) else ([], 15)) else ([], 2)
theorem kill_eq {a b : Nt} (h : agreeN a b = true) : killN a = killN b := by
  obtain ⟨h1, h2, h3, -⟩ := agree_iff.1 h
  exact node_ext h1 h2 h3 rfl
theorem kill_dead {a : Nt} (h : deadN a = true) : killN a = a := node_ext rfl rfl rfl (by unfold deadN at h; exact (of_decide_eq_true h).symm)
theorem agree_kill {a b : Nt} (h : agreeN a b = true) : agreeN (killN a) b = true := by
  obtain ⟨h1, h2, h3, -⟩ := agree_iff.1 h
  exact agree_iff.2 ⟨h1, h2, h3, .inr (.inl rfl)⟩
theorem at_app (l : List Nt) (n : Nt) (d : Dt) : atS (l ++ [n]) d = (atS l d).or (if n.1 = d then some n else none) := by
  unfold atS
  rw [List.find?_append]
  congr 1
  by_cases h : n.1 = d <;> simp [h]
theorem dead_app (l : List Nt) (n : Nt) (d : Dt) : deadAt (l ++ [n]) d = (deadAt l d || (decide (n.1 = d) && deadN n)) := by
  unfold deadAt
  rw [List.any_append]
  simp
theorem step_ok {o pre : List Nt} {n : Nt} (hv : validS o = true) (ha : ∀ d, atS o d = mg pre d) (hn : validN n = true) (hg : agAll (pre ++ [n])) : (putN o n).2 = 0 ∧ validS (putN o n).1 = true ∧ ∀ d, atS (putN o n).1 d = mg (pre ++ [n]) d := by
  have hs := (validS_iff.1 hv).2
  have other : ∀ d, d ≠ n.1 → mg (pre ++ [n]) d = mg pre d := fun d hd => by
    unfold mg
    rw [at_app, dead_app, if_neg (fun e => hd e.symm), decide_eq_false (fun e => hd e.symm), Bool.false_and, Bool.or_false, Option.or_none]
  have main : (putN o n).2 = 0 ∧ some (upN o n) = mg (pre ++ [n]) n.1 := by
    have h0 := ha n.1
    unfold mg at h0
    rcases hp : atS pre n.1 with _ | a
    · rw [hp] at h0
      simp only [Option.map_none] at h0
      unfold putN upN mg
      rw [h0, at_app, hp, dead_app]
      have hd : deadAt pre n.1 = false := by
        rw [← Bool.not_eq_true, deadAt_iff]
        rintro ⟨x, hx, e, -⟩
        exact at_none.1 hp x hx e
      rw [hd]
      refine ⟨rfl, ?_⟩
      simp only [if_true, Option.none_or, Option.map_some, decide_true, Bool.true_and, Bool.false_or]
      split
      · rename_i h; rw [kill_dead h]
      · rfl
    · rw [hp] at h0
      simp only [Option.map_some] at h0
      obtain ⟨p1, p2⟩ := at_some hp
      have ag : agreeN a n = true := hg a (by simp [p1]) n (by simp) p2
      obtain ⟨r, hr⟩ : ∃ r, r = if deadAt pre n.1 = true then killN a else a := ⟨_, rfl⟩
      rw [← hr] at h0
      have agr : agreeN r n = true := by rw [hr]; split; exact agree_kill ag; exact ag
      have vr : validN r = true := (validS_iff.1 hv).1 _ (at_some h0).1
      have hm : mergeN r n = (if n.2.2.2 = 0 then n else r, 0) := by
        unfold mergeN
        rw [vr, hn, agr, Bool.and_self, if_pos rfl, if_pos rfl]
      unfold putN upN mg
      rw [h0, at_app, hp, dead_app]
      simp only [hm, if_true, Option.some_or, Option.map_some, decide_true, Bool.true_and, true_and]
      by_cases hz : n.2.2.2 = 0
      · have hdn : deadN n = true := by unfold deadN; simpa using hz
        rw [if_pos hz, hdn, Bool.or_true, if_pos rfl, kill_eq ag, kill_dead hdn]
      · have hdn : deadN n = false := by unfold deadN; simpa using hz
        rw [if_neg hz, hdn, Bool.or_false, hr]
  refine ⟨main.1, put_valid hv hn main.1, fun d => ?_⟩
  rw [put_at hs main.1]
  split
  · rename_i hd
    rw [hd]
    exact main.2
  · rename_i hd
    rw [ha, other d hd]
theorem fold_ok : ∀ (t pre o : List Nt), validS o = true → (∀ d, atS o d = mg pre d) → (∀ x ∈ t, validN x = true) → agAll (pre ++ t) → validS (foldN t o) = true ∧ ∀ d, atS (foldN t o) d = mg (pre ++ t) d
  | [], pre, o, h1, h2, _, _ => by rw [List.append_nil]; exact ⟨h1, h2⟩
  | n :: t, pre, o, h1, h2, h3, h4 => by
    have hg : agAll (pre ++ [n]) := fun a ha b hb e => h4 a (by simp at ha ⊢; rcases ha with h | h <;> simp [h]) b (by simp at hb ⊢; rcases hb with h | h <;> simp [h]) e
    obtain ⟨-, k2, k3⟩ := step_ok h1 h2 (h3 n (by simp)) hg
    have := fold_ok t (pre ++ [n]) (putN o n).1 k2 k3 (fun x hx => h3 x (by simp [hx])) (by rw [List.append_assoc]; exact h4)
    rw [List.append_assoc] at this
    exact this
theorem of_ok {l : List Nt} (h1 : ∀ x ∈ l, validN x = true) (h2 : agAll l) : ofN l = (foldN l [], 0) ∧ validS (foldN l []) = true ∧ ∀ d, atS (foldN l []) d = mg l d := by
  have := fold_ok l [] [] rfl (fun d => rfl) h1 (by rw [List.nil_append]; exact h2)
  rw [List.nil_append] at this
  refine ⟨?_, this⟩
  unfold ofN
  rw [if_pos (List.all_eq_true.2 h1), if_pos (agB_iff.2 h2)]
theorem mg_same {l m : List Nt} (h : ∀ x, x ∈ l ↔ x ∈ m) (hg : agAll l) (d : Dt) : mg l d = mg m d := by
  have hd : deadAt l d = deadAt m d := by
    rw [Bool.eq_iff_iff, deadAt_iff, deadAt_iff]
    exact ⟨fun ⟨n, h1, h2⟩ => ⟨n, (h n).1 h1, h2⟩, fun ⟨n, h1, h2⟩ => ⟨n, (h n).2 h1, h2⟩⟩
  unfold mg
  rw [hd]
  rcases ha : atS l d with _ | a
  · rcases hb : atS m d with _ | b
    · rfl
    · obtain ⟨b1, b2⟩ := at_some hb
      exact absurd b2 (at_none.1 ha b ((h b).2 b1))
  · obtain ⟨a1, a2⟩ := at_some ha
    rcases hb : atS m d with _ | b
    · exact absurd a2 (at_none.1 hb a ((h a).1 a1))
    · obtain ⟨b1, b2⟩ := at_some hb
      have ag := hg a a1 b ((h b).2 b1) (a2.trans b2.symm)
      simp only [Option.map_some, Option.some.injEq]
      split
      · exact kill_eq ag
      · rename_i hn
        have h0 : ∀ x ∈ m, x.1 = d → x.2.2.2 ≠ 0 := fun x hx e hz => hn (deadAt_iff.2 ⟨x, hx, e, by unfold deadN; simpa using hz⟩)
        obtain ⟨e1, e2, e3, e4⟩ := agree_iff.1 ag
        exact node_ext e1 e2 e3 (e4.elim id fun h' => h'.elim (fun h' => absurd h' (h0 a ((h a).1 a1) a2)) fun h' => absurd h' (h0 b b1 b2))
/-- Neither the order of the nodes nor how often each is there matters. -/
theorem of_same {l m : List Nt} (h : ∀ x, x ∈ l ↔ x ∈ m) : ofN l = ofN m := by
  have hv : l.all validN = m.all validN := by
    rw [Bool.eq_iff_iff, List.all_eq_true, List.all_eq_true]
    exact ⟨fun k x hx => k x ((h x).2 hx), fun k x hx => k x ((h x).1 hx)⟩
  have hg : agB l = agB m := by
    rw [Bool.eq_iff_iff, agB_iff, agB_iff]
    exact ⟨fun k a ha b hb => k a ((h a).2 ha) b ((h b).2 hb), fun k a ha b hb => k a ((h a).1 ha) b ((h b).1 hb)⟩
  by_cases h1 : l.all validN = true
  · by_cases h2 : agB l = true
    · obtain ⟨a1, a2, a3⟩ := of_ok (List.all_eq_true.1 h1) (agB_iff.1 h2)
      obtain ⟨b1, b2, b3⟩ := of_ok (l := m) (List.all_eq_true.1 (hv ▸ h1)) (agB_iff.1 (hg ▸ h2))
      rw [a1, b1]
      refine Prod.ext (at_ext (validS_iff.1 a2).2 (validS_iff.1 b2).2 fun d => ?_) rfl
      rw [a3, b3, mg_same h (agB_iff.1 h2)]
    · unfold ofN
      rw [← hv, ← hg, if_pos h1, if_pos h1, if_neg h2, if_neg h2]
  · unfold ofN
    rw [← hv, if_neg h1, if_neg h1]
theorem of_valid {l : List Nt} (h : (ofN l).2 = 0) : (∀ x ∈ l, validN x = true) ∧ agAll l ∧ validS (ofN l).1 = true := by
  unfold ofN at h ⊢
  split at h
  · rename_i h1
    split at h
    · rename_i h2
      rw [if_pos h1, if_pos h2]
      exact ⟨List.all_eq_true.1 h1, agB_iff.1 h2, (of_ok (List.all_eq_true.1 h1) (agB_iff.1 h2)).2.1⟩
    · cases h
  · cases h
theorem of_no {l : List Nt} (h : (ofN l).2 ≠ 0) : (ofN l).1 = [] := by
  unfold ofN at h ⊢
  split
  · split
    · rename_i h1 h2
      rw [if_pos h1, if_pos h2] at h
      exact absurd rfl h
    · rfl
  · rfl
theorem srt_one {l : List Nt} (hs : SrtN l) {a b : Nt} (ha : a ∈ l) (hb : b ∈ l) (e : a.1 = b.1) : a = b := by
  have h1 := at_mem hs ha
  have h2 := at_mem hs hb
  rw [e, h2] at h1
  exact (Option.some.inj h1).symm
/-- The store of a store is the store. -/
theorem of_self {l : List Nt} (h : validS l = true) : ofN l = (l, 0) := by
  obtain ⟨h1, h2⟩ := validS_iff.1 h
  have hg : agAll l := fun a ha b hb e => by rw [srt_one h2 ha hb e]; exact agree_self b
  obtain ⟨a1, a2, a3⟩ := of_ok h1 hg
  rw [a1]
  refine Prod.ext (at_ext (validS_iff.1 a2).2 h2 fun d => ?_) rfl
  rw [a3]
  unfold mg
  rcases ha : atS l d with _ | a
  · rfl
  · obtain ⟨k1, k2⟩ := at_some ha
    simp only [Option.map_some, Option.some.injEq]
    split
    · rename_i hd
      obtain ⟨x, hx, e, hz⟩ := deadAt_iff.1 hd
      rw [srt_one h2 k1 hx (k2.trans e.symm)]
      exact kill_dead hz
    · rfl
end Go.Proofs.Ytfmlenhakejefaa.Qs
end

/-
  Stores, plainly: nodes that are killed, the dots and contexts of a store, the greatest time, the parents that are lacking.
-/
section
namespace Go.Proofs.Ytfmlenhakejefaa.Qs
set_option linter.unusedVariables false
open D Nd

/-! ### Kill -/
def killAt (dots : List Dt) (n : Nt) : Nt := if n.1 ∈ dots then killN n else n
def killS (l : List Nt) (dots : List Dt) : List Nt × Int := if dots.all (fun d => (atS l d).isSome) = true then (l.map (killAt dots), 0) else ([], 9)
theorem killAt_dot (dots : List Dt) (n : Nt) : (killAt dots n).1 = n.1 := by unfold killAt; split <;> rfl
theorem valid_killN {n : Nt} (h : validN n = true) : validN (killN n) = true := by
  rw [valid_vn] at *
  obtain ⟨h1, h2, h3, h4, h5, h6⟩ := h
  exact ⟨h1, h2, h3, h4, h5, .inl rfl⟩
theorem kill_valid {l : List Nt} (h : validS l = true) (dots : List Dt) : validS (l.map (killAt dots)) = true := by
  obtain ⟨h1, h2⟩ := validS_iff.1 h
  rw [validS_iff]
  constructor
  · intro x hx
    obtain ⟨n, hn, rfl⟩ := List.mem_map.1 hx
    unfold killAt
    split
    · exact valid_killN (h1 n hn)
    · exact h1 n hn
  · unfold SrtN
    rw [List.pairwise_map]
    exact h2.imp fun {a b} k => by rw [killAt_dot, killAt_dot]; exact k
theorem kill_yes {l : List Nt} {dots : List Dt} (h : (killS l dots).2 = 0) : (∀ d ∈ dots, ∃ n ∈ l, n.1 = d) ∧ (killS l dots).1 = l.map (killAt dots) := by
  unfold killS at h ⊢
  split at h
  · rename_i hd
    rw [if_pos hd]
    refine ⟨fun d hd' => ?_, rfl⟩
    have := List.all_eq_true.1 hd d hd'
    rcases ha : atS l d with _ | n
    · rw [ha] at this; cases this
    · exact ⟨n, at_some ha⟩
  · cases h
theorem kill_no {l : List Nt} {dots : List Dt} (h : (killS l dots).2 ≠ 0) : killS l dots = ([], 9) := by
  unfold killS at h ⊢
  split
  · rename_i hd
    rw [if_pos hd] at h
    exact absurd rfl h
  · rfl
theorem kill_code {l : List Nt} {dots : List Dt} (d : Dt) (hd : d ∈ dots) (h : atS l d = none) : killS l dots = ([], 9) := by
  unfold killS
  rw [if_neg]
  intro k
  have := List.all_eq_true.1 k d hd
  rw [h] at this
  cases this
theorem kill_all {l : List Nt} {dots : List Dt} (h : ∀ d ∈ dots, atS l d ≠ none) : killS l dots = (l.map (killAt dots), 0) := by
  unfold killS
  rw [if_pos (List.all_eq_true.2 fun d hd => by
    rcases ha : atS l d with _ | n
    · exact absurd ha (h d hd)
    · rfl)]

/-! ### Dots, contexts -/
def dotsS (l : List Nt) (dead : Bool) : List Dt := (l.filter fun n => !dead || deadN n).map (·.1)
theorem mem_dots {l : List Nt} {dead : Bool} {d : Dt} : d ∈ dotsS l dead ↔ ∃ n ∈ l, (dead = false ∨ deadN n = true) ∧ n.1 = d := by
  unfold dotsS
  simp only [List.mem_map, List.mem_filter, Bool.or_eq_true, Bool.not_eq_true']
  constructor
  · rintro ⟨n, ⟨h1, h2⟩, h3⟩; exact ⟨n, h1, h2, h3⟩
  · rintro ⟨n, h1, h2, h3⟩; exact ⟨n, ⟨h1, h2⟩, h3⟩
theorem srt_dots {l : List Nt} (hs : SrtN l) (dead : Bool) : Srt (dotsS l dead) := by
  unfold dotsS Srt
  rw [List.pairwise_map]
  exact List.Pairwise.sublist List.filter_sublist hs
theorem dots_valid {l : List Nt} (h : validS l = true) (dead : Bool) : ∀ d ∈ dotsS l dead, validR d = true := fun d hd => by
  obtain ⟨n, hn, -, rfl⟩ := mem_dots.1 hd
  exact (valid_vn.1 ((validS_iff.1 h).1 n hn)).1
theorem dots_len (l : List Nt) (dead : Bool) : (dotsS l dead).length ≤ l.length := by
  unfold dotsS
  rw [List.length_map]
  exact List.length_filter_le _ _
def ctxS (l : List Nt) (dead : Bool) : F.Ct := F.addC ([], []) (dotsS l dead)
theorem vc_nil : F.Vc ([], []) := (F.valid_vc _).1 (by decide)
theorem ctx_has {l : List Nt} (h : validS l = true) (dead : Bool) (d : Dt) : F.hasC (ctxS l dead) d = true ↔ d ∈ dotsS l dead := by
  unfold ctxS
  rw [F.add_has vc_nil (dots_valid h dead)]
  constructor
  · rintro (k | k)
    · exfalso
      rw [F.hasC_iff] at k
      rcases k with ⟨k1, k2 | k2⟩
      · have := (F.hasV_iff.1 k2).2
        have h0 : E.getV [] d.1 = 0 := by first | rfl | simp [E.getV]
        rw [h0] at this
        unfold validR at k1
        simp at k1
        omega
      · cases k2
    · exact k
  · exact .inr
/-- What is killed is known as dead. -/
theorem kill_known {l : List Nt} (h : validS l = true) {dots : List Dt} (hk : (killS l dots).2 = 0) : ∀ d ∈ dots, F.hasC (ctxS (killS l dots).1 true) d = true := fun d hd => by
  obtain ⟨h1, h2⟩ := kill_yes hk
  obtain ⟨n, hn, rfl⟩ := h1 d hd
  rw [h2, ctx_has (kill_valid h dots), mem_dots]
  refine ⟨killAt dots n, List.mem_map.2 ⟨n, hn, rfl⟩, .inr ?_, killAt_dot dots n⟩
  unfold killAt
  rw [if_pos hd]
  rfl

/-! ### The greatest time -/
def timeS (l : List Nt) : Int := l.foldl (fun m n => if m < n.2.2.1 then n.2.2.1 else m) 0

/-! ### The parents that are lacking -/
def lacksS (l : List Nt) (n : Nt) : Bool := !rootR n.2.1 && (atS l n.2.1).isNone
def lackS (l : List Nt) : List Dt := l.foldl (fun o n => if lacksS l n = true then ins o n.2.1 else o) []
theorem lack_fold (q : Nt → Bool) : ∀ (t : List Nt) (o : List Dt), Srt o → Srt (t.foldl (fun o n => if q n = true then ins o n.2.1 else o) o) ∧ ∀ d, d ∈ t.foldl (fun o n => if q n = true then ins o n.2.1 else o) o ↔ d ∈ o ∨ ∃ n ∈ t, q n = true ∧ n.2.1 = d
  | [], o, h => ⟨h, fun d => by simp⟩
  | n :: t, o, h => by
    rw [List.foldl_cons]
    have h2 : Srt (if q n = true then ins o n.2.1 else o) := by split; exact srt_ins h _; exact h
    obtain ⟨k1, k2⟩ := lack_fold q t _ h2
    refine ⟨k1, fun d => ?_⟩
    rw [k2]
    constructor
    · rintro (h3 | ⟨x, hx, hy⟩)
      · split at h3
        · rename_i hq
          rcases mem_ins.1 h3 with h3 | h3
          · exact .inl h3
          · exact .inr ⟨n, by simp, hq, h3.symm⟩
        · exact .inl h3
      · exact .inr ⟨x, by simp [hx], hy⟩
    · rintro (h3 | ⟨x, hx, hq, e⟩)
      · left
        split
        · exact mem_ins.2 (.inl h3)
        · exact h3
      · rcases List.mem_cons.1 hx with rfl | hx
        · left
          rw [if_pos hq]
          exact mem_ins.2 (.inr e.symm)
        · exact .inr ⟨x, hx, hq, e⟩
theorem lack_srt (l : List Nt) : Srt (lackS l) := (lack_fold _ l [] srt_nil).1
theorem mem_lack {l : List Nt} {d : Dt} : d ∈ lackS l ↔ rootR d = false ∧ atS l d = none ∧ ∃ n ∈ l, n.2.1 = d := by
  unfold lackS
  rw [(lack_fold _ l [] srt_nil).2]
  constructor
  · rintro (h | ⟨n, hn, hq, rfl⟩)
    · cases h
    · unfold lacksS at hq
      rw [Bool.and_eq_true] at hq
      exact ⟨by simpa using hq.1, by simpa using hq.2, n, hn, rfl⟩
  · rintro ⟨h1, h2, n, hn, rfl⟩
    exact .inr ⟨n, hn, by unfold lacksS; rw [h1, h2]; rfl, rfl⟩
theorem lack_eq {l : List Nt} {m : List Dt} (hm : Srt m) (h : ∀ d, d ∈ m ↔ rootR d = false ∧ atS l d = none ∧ ∃ n ∈ l, n.2.1 = d) : m = lackS l := srt_ext hm (lack_srt l) fun x => by rw [h, mem_lack]
end Go.Proofs.Ytfmlenhakejefaa.Qs
end

/-
  Stores, plainly: what the laws ask; loops over lists.
-/
section
namespace Go.Proofs.Ytfmlenhakejefaa.Qs
set_option linter.unusedVariables false
open D Nd

/-! ### Loops -/
theorem foldl_take {α β : Type} (g : β → α → β) (o : β) (l : List α) (i : Nat) (hi : i < l.length) : (l.take (i + 1)).foldl g o = g ((l.take i).foldl g o) l[i] := by
  have e : l.take (i + 1) = l.take i ++ [l[i]] := by rw [List.take_add_one, List.getElem?_eq_getElem hi]; rfl
  rw [e, List.foldl_append]
  rfl
theorem posS_go {l : List Nt} {d : Dt} {i : Nat} (hi : i < l.length) (h : i ≤ posS l d) (hl : less l[i].1 d = true) : i + 1 ≤ posS l d :=
  pos_go (s := l.map fun n : Nt => n.1) (d := d) (i := i) (by simpa using hi) h (by simpa using hl)
theorem posS_stop {l : List Nt} {d : Dt} {i : Nat} (hi : i < l.length) (h : i ≤ posS l d) (hl : less l[i].1 d = false) : i = posS l d :=
  pos_stop (s := l.map fun n : Nt => n.1) (d := d) (i := i) (by simpa using hi) h (by simpa using hl)
theorem posS_end {l : List Nt} {d : Dt} {i : Nat} (hi : i = l.length) (h : i ≤ posS l d) : i = posS l d := by have := posS_le l d; omega
/-- The first index with a dot, by a loop. -/
def idxS (l : List Nt) (d : Dt) : Int := if (atS l d).isSome then ((l.takeWhile fun n => !decide (n.1 = d)).length : Int) else -1
theorem idx_hit {l : List Nt} {d : Dt} {i : Nat} (hi : i < l.length) (h : ∀ j (hj : j < l.length), j < i → l[j].1 ≠ d) (e : l[i].1 = d) : idxS l d = (i : Int) ∧ atS l d = some l[i] := by
  have hw : (l.takeWhile fun n => !decide (n.1 = d)).length = i ∧ atS l d = some l[i] := by
    induction l generalizing i with
    | nil => simp at hi
    | cons a t ih =>
      cases i with
      | zero =>
        simp only [List.getElem_cons_zero] at e ⊢
        refine ⟨by rw [List.takeWhile_cons, if_neg (by simp [e])]; rfl, ?_⟩
        unfold atS
        rw [List.find?_cons, decide_eq_true e]
      | succ i =>
        have h0 := h 0 (by simp) (by omega)
        simp only [List.getElem_cons_zero] at h0
        simp only [List.getElem_cons_succ] at e ⊢
        obtain ⟨k1, k2⟩ := ih (i := i) (by simpa using hi) (fun j hj hji => by have := h (j + 1) (by simpa using hj) (by omega); simpa using this) e
        refine ⟨by rw [List.takeWhile_cons, if_pos (by simp [h0]), List.length_cons, k1], ?_⟩
        unfold atS at k2 ⊢
        rw [List.find?_cons, decide_eq_false h0]
        exact k2
  unfold idxS
  rw [hw.2]
  exact ⟨by rw [hw.1]; rfl, rfl⟩
theorem idx_none {l : List Nt} {d : Dt} (h : ∀ j (hj : j < l.length), l[j].1 ≠ d) : idxS l d = -1 ∧ atS l d = none := by
  have : atS l d = none := at_none.2 fun n hn => by
    obtain ⟨j, hj, rfl⟩ := List.mem_iff_getElem.1 hn
    exact h j hj
  unfold idxS
  rw [this]
  exact ⟨rfl, rfl⟩
theorem idx_neg {l : List Nt} {d : Dt} : idxS l d < 0 ↔ atS l d = none := by
  unfold idxS
  rcases atS l d with _ | n
  · simp
  · simp only [Option.isSome_some, if_true]
    constructor
    · intro h; omega
    · intro h; cases h

/-! ### What the laws ask -/
theorem up_alive {l : List Nt} {n : Nt} (h : (putN l n).2 = 0) (ha : (upN l n).2.2.2 ≠ 0) : n.2.2.2 ≠ 0 ∧ ∀ r, atS l n.1 = some r → r.2.2.2 ≠ 0 := by
  unfold upN putN at *
  rcases hr : atS l n.1 with _ | r
  · rw [hr] at ha
    exact ⟨ha, fun _ h => by cases h⟩
  · simp only [hr] at h ha
    by_cases hm : (mergeN r n).2 = 0
    · rw [(merge_yes hm).2.2.2] at ha
      by_cases hz : n.2.2.2 = 0
      · rw [if_pos hz] at ha; exact absurd hz ha
      · rw [if_neg hz] at ha
        exact ⟨hz, fun _ h => by cases h; exact ha⟩
    · simp only [hm, if_false] at h
theorem up_at {l : List Nt} (hs : SrtN l) {n : Nt} (h : (putN l n).2 = 0) : atS (putN l n).1 n.1 = some (upN l n) := by rw [put_at hs h, if_pos rfl]
/-- The nodes turned, one of them twice, are the same nodes. -/
theorem back_mem {l : List Nt} {k : Nat} (hk : k < l.length) (x : Nt) : x ∈ (l[k] :: l.take k) ++ (l.drop k).reverse ↔ x ∈ l := by
  rw [List.mem_append, List.mem_cons, List.mem_reverse]
  constructor
  · rintro ((rfl | h) | h)
    · exact List.getElem_mem hk
    · exact List.mem_of_mem_take h
    · exact List.mem_of_mem_drop h
  · intro h
    rw [← List.take_append_drop k l] at h
    rcases List.mem_append.1 h with h | h
    · exact .inl (.inr h)
    · exact .inr h
/-- Nodes that are put one after the other: each goes, and the store is that of all so far. -/
theorem put_seq {l : List Nt} (h1 : ∀ x ∈ l, validN x = true) (h2 : agAll l) (i : Nat) (hi : i < l.length) :
    validS (foldN (l.take i) []) = true ∧ (putN (foldN (l.take i) []) l[i]).2 = 0 ∧ (putN (foldN (l.take i) []) l[i]).1 = foldN (l.take (i + 1)) [] := by
  have sub : ∀ j, (∀ x ∈ l.take j, validN x = true) ∧ agAll (l.take j) := fun j => ⟨fun x hx => h1 x (List.mem_of_mem_take hx), fun a ha b hb e => h2 a (List.mem_of_mem_take ha) b (List.mem_of_mem_take hb) e⟩
  obtain ⟨k1, k2, k3⟩ := of_ok (sub i).1 (sub i).2
  have e : l.take (i + 1) = l.take i ++ [l[i]] := by rw [List.take_add_one, List.getElem?_eq_getElem hi]; rfl
  have := step_ok k2 k3 (h1 _ (List.getElem_mem hi)) (by rw [← e]; exact (sub (i + 1)).2)
  refine ⟨k2, this.1, ?_⟩
  unfold foldN
  rw [foldl_take _ _ _ _ hi]
end Go.Proofs.Ytfmlenhakejefaa.Qs
end

/-
  Layer 14, plainly: states that agree, their join, the join of some states, states within each other.
-/
section
namespace Go.Proofs.Ytfmlenhakejefaa.Jn
set_option linter.unusedVariables false
open D Nd Qs

/-- Two states agree. -/
def agS (a b : List Nt) : Bool := a.all fun x => match atS b x.1 with | none => true | some y => agreeN x y
/-- The join of two states that agree. -/
def joinL (a b : List Nt) : List Nt := foldN b a

theorem at_app2 (a b : List Nt) (d : Dt) : atS (a ++ b) d = (atS a d).or (atS b d) := by
  unfold atS
  exact List.find?_append
theorem dead_app2 (a b : List Nt) (d : Dt) : deadAt (a ++ b) d = (deadAt a d || deadAt b d) := by
  unfold deadAt
  exact List.any_append
theorem dead_store {a : List Nt} (h : validS a = true) (d : Dt) : deadAt a d = match atS a d with | none => false | some x => deadN x := by
  have hs := (validS_iff.1 h).2
  rcases ha : atS a d with _ | x
  · have h1 := at_none.1 ha
    simp only
    cases hd : deadAt a d
    · rfl
    · obtain ⟨n, hn, e, -⟩ := deadAt_iff.1 hd
      exact absurd e (h1 n hn)
  · obtain ⟨hx, e⟩ := at_some ha
    simp only
    cases hd : deadN x
    · cases hd2 : deadAt a d
      · rfl
      · obtain ⟨n, hn, e2, h3⟩ := deadAt_iff.1 hd2
        have := srt_one hs hn hx (e2.trans e.symm)
        rw [this, hd] at h3
        cases h3
    · exact deadAt_iff.2 ⟨x, hx, e, hd⟩
theorem self_ag {a : List Nt} (h : validS a = true) : agAll a := (of_valid (l := a) (by rw [of_self h])).2.1
theorem self_fold {a : List Nt} (h : validS a = true) : foldN a [] = a := by
  have h1 := of_valid (l := a) (by rw [of_self h])
  exact congrArg Prod.fst ((of_ok h1.1 h1.2.1).1.symm.trans (of_self h))
theorem valid_of {a : List Nt} (h : validS a = true) : ∀ x ∈ a, validN x = true := (validS_iff.1 h).1
theorem ag_iff {a b : List Nt} (ha : validS a = true) (hb : validS b = true) : agS a b = true ↔ agAll (a ++ b) := by
  unfold agS
  rw [List.all_eq_true]
  constructor
  · intro h x hx y hy e
    have key : ∀ x ∈ a, ∀ y ∈ b, x.1 = y.1 → agreeN x y = true := by
      intro x hx y hy e
      have h1 := h x hx
      rw [e, at_mem (validS_iff.1 hb).2 hy] at h1
      exact h1
    rcases List.mem_append.1 hx with hx | hx <;> rcases List.mem_append.1 hy with hy | hy
    · exact self_ag ha x hx y hy e
    · exact key x hx y hy e
    · rw [agree_comm]; exact key y hy x hx e.symm
    · exact self_ag hb x hx y hy e
  · intro h x hx
    rcases hat : atS b x.1 with _ | y
    · rfl
    · obtain ⟨hy, e⟩ := at_some hat
      exact h x (List.mem_append_left _ hx) y (List.mem_append_right _ hy) e.symm
theorem ag_comm {a b : List Nt} (ha : validS a = true) (hb : validS b = true) : agS a b = agS b a := by
  have h : agAll (a ++ b) ↔ agAll (b ++ a) := by
    constructor <;> intro h x hx y hy e <;> exact h x (by simpa [or_comm] using hx) y (by simpa [or_comm] using hy) e
  rw [Bool.eq_iff_iff, ag_iff ha hb, ag_iff hb ha, h]
theorem all_app {a b : List Nt} (ha : validS a = true) (hb : validS b = true) : ∀ x ∈ a ++ b, validN x = true := by
  intro x hx
  rcases List.mem_append.1 hx with hx | hx
  · exact valid_of ha x hx
  · exact valid_of hb x hx
theorem join_fold {a b : List Nt} (ha : validS a = true) : foldN (a ++ b) [] = joinL a b := by
  unfold joinL
  conv => rhs; rw [← self_fold ha]
  unfold foldN
  rw [List.foldl_append]
theorem join_of {a b : List Nt} (ha : validS a = true) (hb : validS b = true) (h : agS a b = true) : ofN (a ++ b) = (joinL a b, 0) := by
  rw [(of_ok (all_app ha hb) ((ag_iff ha hb).1 h)).1, join_fold ha]
theorem join_no {a b : List Nt} (ha : validS a = true) (hb : validS b = true) (h : agS a b = false) : ofN (a ++ b) = ([], 15) := by
  unfold ofN
  rw [if_pos (List.all_eq_true.2 (all_app ha hb)), if_neg]
  intro e
  have := (ag_iff ha hb).2 (agB_iff.1 e)
  rw [h] at this
  cases this
theorem join_valid {a b : List Nt} (ha : validS a = true) (hb : validS b = true) (h : agS a b = true) : validS (joinL a b) = true := by
  have := (of_ok (all_app ha hb) ((ag_iff ha hb).1 h)).2.1
  rwa [join_fold ha] at this
/-- What stands at a dot of a join. -/
theorem join_at {a b : List Nt} (ha : validS a = true) (hb : validS b = true) (h : agS a b = true) (d : Dt) :
    atS (joinL a b) d = match atS a d, atS b d with | none, y => y | some x, none => some x | some x, some y => some (if y.2.2.2 = 0 then y else x) := by
  have h1 := (of_ok (all_app ha hb) ((ag_iff ha hb).1 h)).2.2 d
  rw [join_fold ha] at h1
  rw [h1]
  unfold mg
  rw [at_app2, dead_app2, dead_store ha, dead_store hb]
  rcases hx : atS a d with _ | x <;> rcases hy : atS b d with _ | y
  · rfl
  · simp only [Option.none_or, Option.map_some, Bool.false_or]
    cases hd : deadN y
    · simp
    · simp [kill_dead hd]
  · simp only [Option.some_or, Option.map_some, Bool.or_false]
    cases hd : deadN x
    · simp
    · simp [kill_dead hd]
  · simp only [Option.some_or, Option.map_some]
    obtain ⟨hxm, ex⟩ := at_some hx
    obtain ⟨hym, ey⟩ := at_some hy
    have hg : agreeN x y = true := (ag_iff ha hb).1 h x (List.mem_append_left _ hxm) y (List.mem_append_right _ hym) (ex.trans ey.symm)
    congr 1
    show (if (deadN x || deadN y) = true then killN x else x) = if y.2.2.2 = 0 then y else x
    by_cases hy0 : y.2.2.2 = 0
    · have hd : deadN y = true := by simpa [deadN] using hy0
      rw [if_pos hy0, if_pos (by rw [hd, Bool.or_true]), kill_eq hg, kill_dead hd]
    · have hd : deadN y = false := by simpa [deadN] using hy0
      rw [if_neg hy0]
      by_cases hx0 : deadN x = true
      · rw [if_pos (by rw [hx0]; rfl), kill_dead hx0]
      · rw [if_neg (by rw [hd, Bool.or_false]; exact hx0)]
theorem join_comm {a b : List Nt} (ha : validS a = true) (hb : validS b = true) (h : agS a b = true) : joinL b a = joinL a b := by
  have h2 : agS b a = true := by rw [ag_comm hb ha]; exact h
  have h3 : ofN (b ++ a) = ofN (a ++ b) := of_same fun x => by simp [or_comm]
  rw [join_of ha hb h, join_of hb ha h2] at h3
  exact congrArg Prod.fst h3
theorem self_agS {a : List Nt} (ha : validS a = true) : agS a a = true := by
  rw [ag_iff ha ha]
  intro x hx y hy e
  exact self_ag ha x (by simpa using hx) y (by simpa using hy) e
theorem join_self {a : List Nt} (ha : validS a = true) : joinL a a = a := by
  have h3 : ofN (a ++ a) = ofN a := of_same fun x => by simp
  rw [join_of ha ha (self_agS ha), of_self ha] at h3
  exact congrArg Prod.fst h3
theorem nil_valid : validS [] = true := rfl
theorem nil_ag (b : List Nt) : agS [] b = true := rfl
theorem nil_join {b : List Nt} (hb : validS b = true) : joinL [] b = b := self_fold hb
theorem join_nil (a : List Nt) : joinL a [] = a := rfl
/-- The join of a join with a third state, which agrees with both. -/
theorem ag_join {a b c : List Nt} (ha : validS a = true) (hb : validS b = true) (hc : validS c = true) (hab : agS a b = true) (hac : agS a c = true) (hbc : agS b c = true) : agS (joinL a b) c = true := by
  rw [ag_iff (join_valid ha hb hab) hc]
  have hj := join_valid ha hb hab
  have key : ∀ x ∈ joinL a b, ∀ y ∈ c, x.1 = y.1 → agreeN x y = true := by
    intro x hx y hy e
    have h1 := at_mem (validS_iff.1 hj).2 hx
    rw [join_at ha hb hab] at h1
    have kc : ∀ {l : List Nt} (hl : validS l = true), agS l c = true → ∀ z, atS l x.1 = some z → agreeN z y = true := fun hl h z hz => by
      obtain ⟨hzm, ez⟩ := at_some hz
      exact (ag_iff hl hc).1 h z (List.mem_append_left _ hzm) y (List.mem_append_right _ hy) (ez.trans e)
    rcases hx1 : atS a x.1 with _ | p <;> rcases hx2 : atS b x.1 with _ | q <;> rw [hx1, hx2] at h1
    · cases h1
    · simp only at h1
      cases h1
      exact kc hb hbc _ hx2
    · simp only at h1
      cases h1
      exact kc ha hac _ hx1
    · simp only at h1
      by_cases hq : q.2.2.2 = 0
      · rw [if_pos hq] at h1; cases h1; exact kc hb hbc _ hx2
      · rw [if_neg hq] at h1; cases h1; exact kc ha hac _ hx1
  intro x hx y hy e
  rcases List.mem_append.1 hx with hx | hx <;> rcases List.mem_append.1 hy with hy | hy
  · exact self_ag hj x hx y hy e
  · exact key x hx y hy e
  · rw [agree_comm]; exact key y hy x hx e.symm
  · exact self_ag hc x hx y hy e
theorem ag_three {a b c : List Nt} (ha : validS a = true) (hb : validS b = true) (hc : validS c = true) (hab : agS a b = true) (hac : agS a c = true) (hbc : agS b c = true) : agAll (a ++ b ++ c) := by
  have h1 := (ag_iff ha hb).1 hab
  have h2 := (ag_iff ha hc).1 hac
  have h3 := (ag_iff hb hc).1 hbc
  intro x hx y hy e
  have k1 : ∀ z, z ∈ a ++ b ++ c → z ∈ a ∨ z ∈ b ∨ z ∈ c := fun z hz => by simpa [or_assoc] using hz
  rcases k1 x hx with hx | hx | hx <;> rcases k1 y hy with hy | hy | hy
  · exact h1 x (by simp [hx]) y (by simp [hy]) e
  · exact h1 x (by simp [hx]) y (by simp [hy]) e
  · exact h2 x (by simp [hx]) y (by simp [hy]) e
  · exact h1 x (by simp [hx]) y (by simp [hy]) e
  · exact h1 x (by simp [hx]) y (by simp [hy]) e
  · exact h3 x (by simp [hx]) y (by simp [hy]) e
  · exact h2 x (by simp [hx]) y (by simp [hy]) e
  · exact h3 x (by simp [hx]) y (by simp [hy]) e
  · exact h2 x (by simp [hx]) y (by simp [hy]) e
theorem join_three {a b c : List Nt} (ha : validS a = true) (hb : validS b = true) : joinL (joinL a b) c = foldN (a ++ b ++ c) [] := by
  have e : joinL (joinL a b) c = foldN c (foldN (a ++ b) []) := by
    rw [join_fold ha]
    rfl
  rw [e]
  unfold foldN
  rw [List.foldl_append (l := a ++ b)]
theorem join_assoc {a b c : List Nt} (ha : validS a = true) (hb : validS b = true) (hc : validS c = true) (hab : agS a b = true) (hac : agS a c = true) (hbc : agS b c = true) : joinL a (joinL b c) = joinL (joinL a b) c ∧ agS a (joinL b c) = true := by
  have hbcv := join_valid hb hc hbc
  have h1 : agS (joinL b c) a = true := ag_join hb hc ha hbc (by rw [ag_comm hb ha]; exact hab) (by rw [ag_comm hc ha]; exact hac)
  have h2 : agS a (joinL b c) = true := by rw [ag_comm ha hbcv]; exact h1
  refine ⟨?_, h2⟩
  rw [← join_comm ha hbcv h2, join_three hb hc, join_three ha hb]
  have hall : ∀ x ∈ a ++ b ++ c, validN x = true := by
    intro x hx
    rcases List.mem_append.1 hx with hx | hx
    · exact all_app ha hb x hx
    · exact valid_of hc x hx
  have hag := ag_three ha hb hc hab hac hbc
  have hsame : ∀ x, x ∈ b ++ c ++ a ↔ x ∈ a ++ b ++ c := fun x => by
    simp only [List.mem_append]
    constructor <;> intro h <;> rcases h with (h | h) | h <;> simp [h]
  have h3 := of_same hsame
  rw [(of_ok hall hag).1] at h3
  have h4 := of_ok (l := b ++ c ++ a) (fun x hx => hall x ((hsame x).1 hx)) (fun x hx y hy e => hag x ((hsame x).1 hx) y ((hsame y).1 hy) e)
  rw [h4.1] at h3
  exact congrArg Prod.fst h3
/-- A state is within the join that it is part of. -/
theorem ag_part {a b : List Nt} (ha : validS a = true) (hb : validS b = true) (h : agS a b = true) : agS a (joinL a b) = true := (join_assoc ha ha hb (self_agS ha) h h).2
theorem join_part {a b : List Nt} (ha : validS a = true) (hb : validS b = true) (h : agS a b = true) : joinL a (joinL a b) = joinL a b := by
  rw [(join_assoc ha ha hb (self_agS ha) h h).1, join_self ha]
theorem join_part2 {a b : List Nt} (ha : validS a = true) (hb : validS b = true) (h : agS a b = true) : agS b (joinL a b) = true ∧ joinL b (joinL a b) = joinL a b ∧ joinL (joinL a b) a = joinL a b ∧ agS (joinL a b) a = true := by
  have h2 : agS b a = true := by rw [ag_comm hb ha]; exact h
  have h3 := ag_part hb ha h2
  have h4 := join_part hb ha h2
  rw [join_comm ha hb h] at h3 h4
  have hj := join_valid ha hb h
  have h5 := ag_part ha hb h
  have h6 : agS (joinL a b) a = true := by rw [ag_comm hj ha]; exact h5
  exact ⟨h3, h4, by rw [join_comm ha hj h5, join_part ha hb h], h6⟩
theorem within_both {a b : List Nt} (ha : validS a = true) (hb : validS b = true) (h : agS a b = true) (h1 : joinL a b = b) (h2 : joinL b a = a) : a = b := by
  rw [← h2, join_comm ha hb h, h1]
/-- What is dead stays dead. -/
theorem join_dead {a b : List Nt} (ha : validS a = true) (hb : validS b = true) (h : agS a b = true) {x : Nt} (hx : x ∈ a ∨ x ∈ b) : ∃ y, atS (joinL a b) x.1 = some y ∧ (x.2.2.2 = 0 → y.2.2.2 = 0) := by
  have h1 := join_at ha hb h x.1
  rcases hx with hx | hx
  · rw [at_mem (validS_iff.1 ha).2 hx] at h1
    rcases hy : atS b x.1 with _ | y
    · rw [hy] at h1; exact ⟨x, h1, fun e => e⟩
    · rw [hy] at h1
      refine ⟨_, h1, fun e => ?_⟩
      split
      · assumption
      · exact e
  · rw [at_mem (validS_iff.1 hb).2 hx] at h1
    rcases hy : atS a x.1 with _ | y
    · rw [hy] at h1; exact ⟨x, h1, fun e => e⟩
    · rw [hy] at h1
      refine ⟨_, h1, fun e => ?_⟩
      rw [if_pos e]
      exact e
/-- The join of some states: all nodes put together. -/
def allS (ls : List (List Nt)) : List Nt × Int := if (ls.all validS) = true then ofN ls.flatten else ([], 2)
/-- Any two of some states agree. -/
def agsS : List (List Nt) → Bool
  | [] => true
  | a :: t => (t.all fun b => agS a b) && agsS t
def joinsL (ls : List (List Nt)) : List Nt := ls.foldl joinL []
theorem flat_valid {ls : List (List Nt)} (h : ls.all validS = true) : ∀ x ∈ ls.flatten, validN x = true := by
  intro x hx
  obtain ⟨a, ha, hxa⟩ := List.mem_flatten.1 hx
  exact valid_of (List.all_eq_true.1 h a ha) x hxa
theorem ags_iff : ∀ {ls : List (List Nt)}, ls.all validS = true → (agsS ls = true ↔ agAll ls.flatten)
  | [], _ => by simp [agsS, agAll]
  | a :: t, h => by
    rw [List.all_cons, Bool.and_eq_true] at h
    have ih := ags_iff h.2
    have hva := h.1
    have hvt := List.all_eq_true.1 h.2
    rw [agsS, Bool.and_eq_true, List.all_eq_true, ih, List.flatten_cons]
    constructor
    · rintro ⟨h1, h2⟩ x hx y hy e
      have key : ∀ x ∈ a, ∀ y ∈ t.flatten, x.1 = y.1 → agreeN x y = true := by
        intro x hx y hy e
        obtain ⟨b, hb, hyb⟩ := List.mem_flatten.1 hy
        exact (ag_iff hva (hvt b hb)).1 (h1 b hb) x (List.mem_append_left _ hx) y (List.mem_append_right _ hyb) e
      rcases List.mem_append.1 hx with hx | hx <;> rcases List.mem_append.1 hy with hy | hy
      · exact self_ag hva x hx y hy e
      · exact key x hx y hy e
      · rw [agree_comm]; exact key y hy x hx e.symm
      · exact h2 x hx y hy e
    · intro hg
      refine ⟨fun b hb => (ag_iff hva (hvt b hb)).2 fun x hx y hy e => ?_, fun x hx y hy e => hg x (List.mem_append_right _ hx) y (List.mem_append_right _ hy) e⟩
      have k : ∀ z, z ∈ a ++ b → z ∈ a ++ t.flatten := fun z hz => by
        rcases List.mem_append.1 hz with hz | hz
        · exact List.mem_append_left _ hz
        · exact List.mem_append_right _ (List.mem_flatten.2 ⟨b, hb, hz⟩)
      exact hg x (k x hx) y (k y hy) e
theorem joins_fold : ∀ (ls : List (List Nt)) (o : List Nt), ls.foldl joinL o = foldN ls.flatten o
  | [], o => rfl
  | a :: t, o => by
    rw [List.foldl_cons, joins_fold t, List.flatten_cons]
    unfold joinL foldN
    rw [List.foldl_append]
theorem alls_yes {ls : List (List Nt)} (h : ls.all validS = true) (hg : agsS ls = true) : allS ls = (joinsL ls, 0) ∧ validS (joinsL ls) = true := by
  have h1 := of_ok (flat_valid h) ((ags_iff h).1 hg)
  have e : joinsL ls = foldN ls.flatten [] := joins_fold ls []
  unfold allS
  rw [if_pos h, h1.1, e]
  exact ⟨rfl, h1.2.1⟩
theorem alls_no {ls : List (List Nt)} (h : ls.all validS = true) (hg : agsS ls = false) : allS ls = ([], 15) := by
  unfold allS ofN
  rw [if_pos h, if_pos (List.all_eq_true.2 (flat_valid h)), if_neg]
  intro e
  have := (ags_iff h).2 (agB_iff.1 e)
  rw [hg] at this
  cases this
theorem alls_same {l m : List (List Nt)} (hl : l.all validS = true) (hm : m.all validS = true) (h : ∀ a, a ∈ l ↔ a ∈ m) : allS l = allS m := by
  unfold allS
  rw [if_pos hl, if_pos hm]
  refine of_same fun x => ?_
  constructor <;> intro hx <;> obtain ⟨a, ha, hxa⟩ := List.mem_flatten.1 hx
  · exact List.mem_flatten.2 ⟨a, (h a).1 ha, hxa⟩
  · exact List.mem_flatten.2 ⟨a, (h a).2 ha, hxa⟩
/-- Each of some states is within their join. -/
theorem alls_part {ls : List (List Nt)} (h : ls.all validS = true) (hg : agsS ls = true) {a : List Nt} (ha : a ∈ ls) : agS a (joinsL ls) = true ∧ joinL a (joinsL ls) = joinsL ls := by
  have hva := List.all_eq_true.1 h a ha
  obtain ⟨he, hvj⟩ := alls_yes h hg
  have hga := (ags_iff h).1 hg
  have hat : ∀ d, atS (joinsL ls) d = mg ls.flatten d := by
    have e : joinsL ls = foldN ls.flatten [] := joins_fold ls []
    rw [e]
    exact (of_ok (flat_valid h) hga).2.2
  have hag : agS a (joinsL ls) = true := by
    rw [ag_iff hva hvj]
    have key : ∀ x ∈ a, ∀ y ∈ joinsL ls, x.1 = y.1 → agreeN x y = true := by
      intro x hx y hy e
      have h1 := at_mem (validS_iff.1 hvj).2 hy
      rw [hat] at h1
      unfold mg at h1
      obtain ⟨z, hz, e2⟩ := Option.map_eq_some_iff.1 h1
      obtain ⟨hzm, ez⟩ := at_some hz
      have hxz := hga x (List.mem_flatten.2 ⟨a, ha, hx⟩) z hzm (e.trans ez.symm)
      split at e2
      · rw [← e2, agree_comm]
        rw [agree_comm] at hxz
        exact agree_kill hxz
      · rw [← e2]; exact hxz
    intro x hx y hy e
    rcases List.mem_append.1 hx with hx | hx <;> rcases List.mem_append.1 hy with hy | hy
    · exact self_ag hva x hx y hy e
    · exact key x hx y hy e
    · rw [agree_comm]; exact key y hy x hx e.symm
    · exact self_ag hvj x hx y hy e
  refine ⟨hag, ?_⟩
  refine at_ext (validS_iff.1 (join_valid hva hvj hag)).2 (validS_iff.1 hvj).2 fun d => ?_
  rw [join_at hva hvj hag]
  rcases hx : atS a d with _ | x
  · rfl
  · obtain ⟨hxm, ex⟩ := at_some hx
    have hxf : x ∈ ls.flatten := List.mem_flatten.2 ⟨a, ha, hxm⟩
    have h1 := hat d
    unfold mg at h1
    rcases hz : atS ls.flatten d with _ | z
    · exact absurd ex (at_none.1 hz x hxf)
    · rw [hz, Option.map_some] at h1
      obtain ⟨hzm, ez⟩ := at_some hz
      have hxz := hga x hxf z hzm (ex.trans ez.symm)
      rw [h1]
      simp only
      congr 1
      cases hd : deadAt ls.flatten d
      · have hx0 : deadN x = false := by
          cases h0 : deadN x
          · rfl
          · have := deadAt_iff.2 ⟨x, hxf, ex, h0⟩
            rw [hd] at this
            cases this
        have hz0 : deadN z = false := by
          cases h0 : deadN z
          · rfl
          · have := deadAt_iff.2 ⟨z, hzm, ez, h0⟩
            rw [hd] at this
            cases this
        have k1 : ¬ z.2.2.2 = 0 := by simpa [deadN] using hz0
        have k2 : ¬ x.2.2.2 = 0 := by simpa [deadN] using hx0
        rw [if_neg (by simp : ¬ (false = true)), if_neg k1]
        obtain ⟨g1, g2, g3, g4⟩ := agree_iff.1 hxz
        exact node_ext g1 g2 g3 (by rcases g4 with g | g | g; exact g; exact absurd g k2; exact absurd g k1)
      · rw [if_pos (rfl : true = true), if_pos (show (killN z).2.2.2 = 0 from rfl)]
end Go.Proofs.Ytfmlenhakejefaa.Jn
end

/-
  Layer 14, plainly: the reference's join (one node after the other), and two stores zipped from the front.
-/
section
namespace Go.Proofs.Ytfmlenhakejefaa.Jn
set_option linter.unusedVariables false
open D Nd Qs

/-! ### The reference's join -/
/-- What two nodes are merged to, whatever they are. -/
def mrgR (a b : Nt) : Nt := if agreeN a b = true then (if b.2.2.2 = 0 then b else a) else zeroN
/-- The first place of a dot, or the list's length. -/
def hitS (l : List Nt) (d : Dt) : Nat := (l.takeWhile fun n => !decide (n.1 = d)).length
/-- One more node. -/
def stepR (o : List Nt) (n : Nt) : List Nt := match o[hitS o n.1]? with | some r => o.set (hitS o n.1) (mrgR r n) | none => o.take (posS o n.1) ++ n :: o.drop (posS o n.1)
def joinR (a b : List Nt) : List Nt := b.foldl stepR a
theorem hit_cons (x : Nt) (l : List Nt) (d : Dt) : hitS (x :: l) d = if x.1 = d then 0 else hitS l d + 1 := by
  unfold hitS
  rw [List.takeWhile_cons]
  by_cases h : x.1 = d
  · simp [h]
  · simp [h]
theorem hit_le : ∀ (l : List Nt) (d : Dt), hitS l d ≤ l.length
  | [], d => Nat.le_refl _
  | x :: l, d => by
    rw [hit_cons, List.length_cons]
    have := hit_le l d
    split <;> omega
theorem hit_at : ∀ (l : List Nt) (d : Dt), l[hitS l d]? = atS l d
  | [], d => rfl
  | x :: l, d => by
    rw [hit_cons]
    unfold atS
    rw [List.find?_cons]
    by_cases h : x.1 = d
    · simp [h]
    · simp only [h, if_false, List.getElem?_cons_succ, decide_false]
      exact hit_at l d
theorem hit_eq {l : List Nt} {d : Dt} {i : Nat} (hi : i < l.length) (h : ∀ j (hj : j < l.length), j < i → l[j].1 ≠ d) (e : l[i].1 = d) : hitS l d = i := by
  induction l generalizing i with
  | nil => exact absurd hi (by simp)
  | cons x l ih =>
    rw [hit_cons]
    rcases i with _ | i
    · rw [if_pos (by simpa using e)]
    · have h0 := h 0 (by simp) (by omega)
      rw [if_neg (by simpa using h0)]
      rw [ih (i := i) (by simpa using hi) (fun j hj hji => by have := h (j + 1) (by simpa using hj) (by omega); simpa using this) (by simpa using e)]
theorem hit_pos {l : List Nt} (hs : SrtN l) {d : Dt} {r : Nt} (h : atS l d = some r) : hitS l d = posS l d := by
  obtain ⟨hp, e, -⟩ := setS_old hs (n := (d, (0, 0), 0, 0)) h
  obtain ⟨-, hd⟩ := at_some h
  refine hit_eq hp (fun j hj hji => ?_) (by rw [show l[posS l d] = r from e]; exact hd)
  exact less_ne (posS_lt hj hji)
/-- Into a store, a node that agrees. -/
theorem step_put {o : List Nt} (ho : validS o = true) {n : Nt} (hn : validN n = true) (h : ∀ r, atS o n.1 = some r → agreeN r n = true) : stepR o n = (putN o n).1 := by
  have hs := (validS_iff.1 ho).2
  unfold stepR
  rw [hit_at]
  rcases hr : atS o n.1 with _ | r
  · unfold putN
    rw [hr]
    exact (setS_new hr).symm
  · have hg := h r hr
    have hrv := (validS_iff.1 ho).1 r (at_some hr).1
    have hm : mergeN r n = (mrgR r n, 0) := by
      unfold mergeN mrgR
      rw [if_pos (by rw [hrv, hn]; rfl), if_pos hg, if_pos hg]
    unfold putN
    simp only [hr, hm, if_true]
    have hd : (mrgR r n).1 = n.1 := by
      have := (merge_dot (a := r) (b := n) (by rw [hm])).1.trans (merge_dot (a := r) (b := n) (by rw [hm])).2
      rwa [hm] at this
    obtain ⟨hp, e1, e2⟩ := setS_old hs (n := mrgR r n) (r := r) (by rw [hd]; exact hr)
    rw [e2, hit_pos hs hr, hd, List.set_eq_take_append_cons_drop, if_pos (by rw [← hd]; exact hp)]
/-- The reference's join of two stores that agree. -/
theorem joinR_go : ∀ (t pre o : List Nt), validS o = true → (∀ d, atS o d = mg pre d) → (∀ x ∈ t, validN x = true) → agAll (pre ++ t) → t.foldl stepR o = foldN t o
  | [], pre, o, _, _, _, _ => rfl
  | n :: t, pre, o, hv, ha, hn, hg => by
    have hnv := hn n (by simp)
    have hg1 : agAll (pre ++ [n]) := by
      have hin : ∀ x, x ∈ pre ++ [n] → x ∈ pre ++ n :: t := fun x hx => by
        rcases List.mem_append.1 hx with h | h
        · exact List.mem_append_left _ h
        · exact List.mem_append_right _ (by simp at h; simp [h])
      exact fun x hx y hy e => hg x (hin x hx) y (hin y hy) e
    obtain ⟨h1, h2, h3⟩ := step_ok hv ha hnv hg1
    have hst : stepR o n = (putN o n).1 := by
      refine step_put hv hnv fun r hr => ?_
      have hc := h1
      unfold putN at hc
      rw [hr] at hc
      by_cases hm : (mergeN r n).2 = 0
      · exact (merge_yes hm).2.2.1
      · simp only [hm, if_false] at hc
    show t.foldl stepR (stepR o n) = foldN t ((putN o n).1)
    rw [hst]
    exact joinR_go t (pre ++ [n]) _ h2 h3 (fun x hx => hn x (by simp [hx])) (by simpa using hg)
theorem joinR_eq {a b : List Nt} (ha : validS a = true) (hb : validS b = true) (h : agS a b = true) : joinR a b = joinL a b := by
  refine joinR_go b a a ha (fun d => ?_) (valid_of hb) ((ag_iff ha hb).1 h)
  have h1 := (of_ok (valid_of ha) (self_ag ha)).2.2 d
  rw [self_fold ha] at h1
  exact h1

/-! ### Zipped from the front -/
def zipJ : List Nt → List Nt → List Nt
  | [], b => b
  | a, [] => a
  | x :: a, y :: b => if x.1 = y.1 then (if y.2.2.2 = 0 then y else x) :: zipJ a b else if less x.1 y.1 = true then x :: zipJ a (y :: b) else y :: zipJ (x :: a) b
termination_by a b => a.length + b.length
theorem zip_nil (a : List Nt) : zipJ a [] = a := by
  rcases a with _ | ⟨x, a⟩ <;> rw [zipJ] <;> simp
theorem zip_end (a b : List Nt) (i k : Nat) (hi : a.length ≤ i) : zipJ (a.drop i) (b.drop k) = b.drop k := by
  rw [List.drop_eq_nil_of_le hi, zipJ]
theorem zip_end2 (a b : List Nt) (i k : Nat) (hk : b.length ≤ k) : zipJ (a.drop i) (b.drop k) = a.drop i := by
  rw [List.drop_eq_nil_of_le hk, zip_nil]
theorem zip_both (a b : List Nt) (i k : Nat) (hi : i < a.length) (hk : k < b.length) (h : a[i].1 = b[k].1) :
    zipJ (a.drop i) (b.drop k) = (if b[k].2.2.2 = 0 then b[k] else a[i]) :: zipJ (a.drop (i + 1)) (b.drop (k + 1)) := by
  rw [List.drop_eq_getElem_cons hi, List.drop_eq_getElem_cons hk, zipJ, if_pos h]
theorem zip_left (a b : List Nt) (i k : Nat) (hi : i < a.length) (hk : k < b.length) (h : less a[i].1 b[k].1 = true) :
    zipJ (a.drop i) (b.drop k) = a[i] :: zipJ (a.drop (i + 1)) (b.drop k) := by
  rw [List.drop_eq_getElem_cons hi, List.drop_eq_getElem_cons hk, zipJ, if_neg (less_ne h), if_pos h]
theorem zip_right (a b : List Nt) (i k : Nat) (hi : i < a.length) (hk : k < b.length) (h : less b[k].1 a[i].1 = true) :
    zipJ (a.drop i) (b.drop k) = b[k] :: zipJ (a.drop i) (b.drop (k + 1)) := by
  have h2 : less a[i].1 b[k].1 = false := by
    rcases e : less a[i].1 b[k].1 with _ | _
    · rfl
    · have := less_trans e h
      rw [less_irr] at this
      cases this
  rw [List.drop_eq_getElem_cons hi, List.drop_eq_getElem_cons hk, zipJ, if_neg (less_ne h).symm, if_neg (by rw [h2]; decide), ← List.drop_eq_getElem_cons hi]
theorem srt_cons {x : Nt} {a : List Nt} (h : SrtN (x :: a)) : (∀ y ∈ a, less x.1 y.1 = true) ∧ SrtN a := List.pairwise_cons.1 h
theorem not_less {a b : Nt} (hne : a.1 ≠ b.1) (h : ¬less a.1 b.1 = true) : less b.1 a.1 = true := by
  rcases h4 : less b.1 a.1 with _ | _
  · exact absurd (less_tri (by simpa using h) h4) hne
  · rfl
theorem zip_mem : ∀ (a b : List Nt) (d : Dt), (∀ x ∈ a, less d x.1 = true) → (∀ y ∈ b, less d y.1 = true) → ∀ z ∈ zipJ a b, less d z.1 = true
  | [], b, d, _, hb => by rw [zipJ]; exact hb
  | x :: a, [], d, ha, _ => by rw [zip_nil]; exact ha
  | x :: a, y :: b, d, ha, hb => by
    rw [zipJ]
    intro z hz
    split at hz
    · rcases List.mem_cons.1 hz with rfl | hz
      · split
        · exact hb y (by simp)
        · exact ha x (by simp)
      · exact zip_mem a b d (fun q hq => ha q (by simp [hq])) (fun q hq => hb q (by simp [hq])) z hz
    · split at hz
      · rcases List.mem_cons.1 hz with rfl | hz
        · exact ha z (by simp)
        · exact zip_mem a (y :: b) d (fun q hq => ha q (by simp [hq])) hb z hz
      · rcases List.mem_cons.1 hz with rfl | hz
        · exact hb z (by simp)
        · exact zip_mem (x :: a) b d ha (fun q hq => hb q (by simp [hq])) z hz
termination_by a b => a.length + b.length
theorem zip_srt : ∀ (a b : List Nt), SrtN a → SrtN b → SrtN (zipJ a b)
  | [], b, _, hb => by rw [zipJ]; exact hb
  | x :: a, [], ha, _ => by rw [zip_nil]; exact ha
  | x :: a, y :: b, ha, hb => by
    obtain ⟨ha1, ha2⟩ := srt_cons ha
    obtain ⟨hb1, hb2⟩ := srt_cons hb
    rw [zipJ]
    split
    · rename_i e
      refine List.pairwise_cons.2 ⟨fun z hz => ?_, zip_srt a b ha2 hb2⟩
      have : (if y.2.2.2 = 0 then y else x).1 = x.1 := by split; exact e.symm; rfl
      rw [this]
      exact zip_mem a b x.1 ha1 (fun q hq => by rw [e]; exact hb1 q hq) z hz
    · rename_i hne
      split
      · rename_i hl
        refine List.pairwise_cons.2 ⟨fun z hz => ?_, zip_srt a (y :: b) ha2 hb⟩
        exact zip_mem a (y :: b) x.1 ha1 (fun q hq => by rcases List.mem_cons.1 hq with rfl | hq; exact hl; exact less_trans hl (hb1 q hq)) z hz
      · rename_i hl
        have hl2 := not_less hne hl
        refine List.pairwise_cons.2 ⟨fun z hz => ?_, zip_srt (x :: a) b ha hb2⟩
        exact zip_mem (x :: a) b y.1 (fun q hq => by rcases List.mem_cons.1 hq with rfl | hq; exact hl2; exact less_trans hl2 (ha1 q hq)) hb1 z hz
termination_by a b => a.length + b.length
theorem at_cons (x : Nt) (l : List Nt) (d : Dt) : atS (x :: l) d = if x.1 = d then some x else atS l d := by
  unfold atS
  rw [List.find?_cons]
  by_cases h : x.1 = d <;> simp [h]
theorem at_past {l : List Nt} {d : Dt} (h : ∀ y ∈ l, less d y.1 = true) : atS l d = none := at_none.2 fun n hn e => by
  have := h n hn
  rw [e, less_irr] at this
  cases this
theorem zip_at : ∀ (a b : List Nt), SrtN a → SrtN b → ∀ d, atS (zipJ a b) d = match atS a d, atS b d with | none, y => y | some x, none => some x | some x, some y => some (if y.2.2.2 = 0 then y else x)
  | [], b, _, hb => fun d => by rw [zipJ]; rfl
  | x :: a, [], ha, _ => fun d => by
    rw [zip_nil]
    show atS (x :: a) d = match atS (x :: a) d, none with | none, y => y | some x, none => some x | some x, some y => some (if y.2.2.2 = 0 then y else x)
    cases atS (x :: a) d <;> rfl
  | x :: a, y :: b, ha, hb => fun d => by
    obtain ⟨ha1, ha2⟩ := srt_cons ha
    obtain ⟨hb1, hb2⟩ := srt_cons hb
    rw [zipJ]
    by_cases e : x.1 = y.1
    · rw [if_pos e]
      have e3 : (if y.2.2.2 = 0 then y else x).1 = x.1 := by split; exact e.symm; rfl
      rw [at_cons, at_cons x, at_cons y, e3, ← e, zip_at a b ha2 hb2 d]
      by_cases hd : x.1 = d
      · simp only [hd, if_true]
      · simp only [hd, if_false]
    · rw [if_neg e]
      by_cases hl : less x.1 y.1 = true
      · rw [if_pos hl, at_cons, at_cons x, zip_at a (y :: b) ha2 hb d]
        by_cases hd : x.1 = d
        · subst hd
          have hy : atS (y :: b) x.1 = none := at_past fun q hq => by rcases List.mem_cons.1 hq with rfl | hq; exact hl; exact less_trans hl (hb1 q hq)
          simp only [if_true, hy]
        · simp only [hd, if_false]
      · have hl2 := not_less e hl
        rw [if_neg hl, at_cons, at_cons y, zip_at (x :: a) b ha hb2 d]
        by_cases hd : y.1 = d
        · subst hd
          have hx : atS (x :: a) y.1 = none := at_past fun q hq => by rcases List.mem_cons.1 hq with rfl | hq; exact hl2; exact less_trans hl2 (ha1 q hq)
          simp only [if_true, hx]
        · simp only [hd, if_false]
termination_by a b => a.length + b.length
/-- Two stores that agree, zipped, are their join. -/
theorem zip_join {a b : List Nt} (ha : validS a = true) (hb : validS b = true) (h : agS a b = true) : zipJ a b = joinL a b :=
  at_ext (zip_srt a b (validS_iff.1 ha).2 (validS_iff.1 hb).2) (validS_iff.1 (join_valid ha hb h)).2 fun d => by
    rw [zip_at a b (validS_iff.1 ha).2 (validS_iff.1 hb).2 d, join_at ha hb h d]
    try (rcases atS a d with _ | x <;> rcases atS b d with _ | y <;> rfl)
/-- Whether all common dots agree, from the front. -/
def zagB : List Nt → List Nt → Bool
  | [], _ => true
  | _, [] => true
  | x :: a, y :: b => if x.1 = y.1 then agreeN x y && zagB a b else if less x.1 y.1 = true then zagB a (y :: b) else zagB (x :: a) b
termination_by a b => a.length + b.length
theorem zag_nil (a : List Nt) : zagB a [] = true := by
  rcases a with _ | ⟨x, a⟩ <;> rw [zagB]; simp
theorem zag_end (a b : List Nt) (i k : Nat) (hi : a.length ≤ i) : zagB (a.drop i) (b.drop k) = true := by
  rw [List.drop_eq_nil_of_le hi, zagB]
theorem zag_end2 (a b : List Nt) (i k : Nat) (hk : b.length ≤ k) : zagB (a.drop i) (b.drop k) = true := by
  rw [List.drop_eq_nil_of_le hk, zag_nil]
theorem zag_both (a b : List Nt) (i k : Nat) (hi : i < a.length) (hk : k < b.length) (h : a[i].1 = b[k].1) :
    zagB (a.drop i) (b.drop k) = (agreeN a[i] b[k] && zagB (a.drop (i + 1)) (b.drop (k + 1))) := by
  rw [List.drop_eq_getElem_cons hi, List.drop_eq_getElem_cons hk, zagB, if_pos h]
theorem zag_left (a b : List Nt) (i k : Nat) (hi : i < a.length) (hk : k < b.length) (h : less a[i].1 b[k].1 = true) :
    zagB (a.drop i) (b.drop k) = zagB (a.drop (i + 1)) (b.drop k) := by
  conv => lhs; rw [List.drop_eq_getElem_cons hi, List.drop_eq_getElem_cons hk, zagB, if_neg (less_ne h), if_pos h]
  rw [← List.drop_eq_getElem_cons hk]
theorem zag_right (a b : List Nt) (i k : Nat) (hi : i < a.length) (hk : k < b.length) (h : less b[k].1 a[i].1 = true) :
    zagB (a.drop i) (b.drop k) = zagB (a.drop i) (b.drop (k + 1)) := by
  have h2 : less a[i].1 b[k].1 = false := by
    rcases e : less a[i].1 b[k].1 with _ | _
    · rfl
    · have := less_trans e h
      rw [less_irr] at this
      cases this
  conv => lhs; rw [List.drop_eq_getElem_cons hi, List.drop_eq_getElem_cons hk, zagB, if_neg (less_ne h).symm, if_neg (by rw [h2]; decide)]
  rw [← List.drop_eq_getElem_cons hi]
theorem ag_cons (x : Nt) (a b : List Nt) : agS (x :: a) b = ((match atS b x.1 with | none => true | some y => agreeN x y) && agS a b) := by
  unfold agS
  rw [List.all_cons]
  try (cases atS b x.1 <;> rfl)
theorem ag_skip {a b : List Nt} {y : Nt} (h : ∀ x ∈ a, y.1 ≠ x.1) : agS a (y :: b) = agS a b := by
  unfold agS
  rw [Bool.eq_iff_iff, List.all_eq_true, List.all_eq_true]
  constructor <;> intro h1 x hx <;> have h2 := h1 x hx
  · rw [at_cons, if_neg (h x hx)] at h2; exact h2
  · rw [at_cons, if_neg (h x hx)]; exact h2
theorem zag_ag : ∀ (a b : List Nt), SrtN a → SrtN b → zagB a b = agS a b
  | [], b, _, _ => by rw [zagB]; rfl
  | x :: a, [], _, _ => by
    rw [zag_nil]
    exact (List.all_eq_true.2 fun z _ => rfl).symm
  | x :: a, y :: b, ha, hb => by
    obtain ⟨ha1, ha2⟩ := srt_cons ha
    obtain ⟨hb1, hb2⟩ := srt_cons hb
    rw [zagB]
    by_cases e : x.1 = y.1
    · rw [if_pos e, ag_cons, at_cons, if_pos e.symm, ag_skip (fun q hq => by rw [← e]; exact less_ne (ha1 q hq)), zag_ag a b ha2 hb2]
    · rw [if_neg e]
      by_cases hl : less x.1 y.1 = true
      · have hy : atS (y :: b) x.1 = none := at_past fun q hq => by rcases List.mem_cons.1 hq with rfl | hq; exact hl; exact less_trans hl (hb1 q hq)
        rw [if_pos hl, ag_cons, hy, zag_ag a (y :: b) ha2 hb]
        rfl
      · have hl2 := not_less e hl
        rw [if_neg hl, ag_skip (fun q hq => by rcases List.mem_cons.1 hq with rfl | hq; exact less_ne hl2; exact less_ne (less_trans hl2 (ha1 q hq))), zag_ag (x :: a) b ha hb2]
termination_by a b => a.length + b.length

/-! ### Some states -/
theorem joinsR_fold : ∀ (ls : List (List Nt)) (o : List Nt), ls.foldl joinR o = ls.flatten.foldl stepR o
  | [], o => rfl
  | a :: t, o => by
    rw [List.foldl_cons, joinsR_fold t, List.flatten_cons, List.foldl_append]
    rfl
theorem joinsR_eq {ls : List (List Nt)} (h : ls.all validS = true) (hg : agsS ls = true) : ls.foldl joinR [] = joinsL ls := by
  rw [joinsR_fold]
  exact (joinR_go ls.flatten [] [] nil_valid (fun d => rfl) (flat_valid h) ((ags_iff h).1 hg)).trans (joins_fold ls []).symm
theorem ags_snoc : ∀ (l : List (List Nt)) (x : List Nt), (l ++ [x]).all validS = true → agsS (l ++ [x]) = (agsS l && l.all fun a => agS x a)
  | [], x, _ => rfl
  | a :: t, x, h => by
    rw [List.cons_append, List.all_cons, Bool.and_eq_true] at h
    have hx : validS x = true := List.all_eq_true.1 h.2 x (by simp)
    rw [List.cons_append, agsS, ags_snoc t x h.2, agsS, List.all_append, List.all_cons, ag_comm h.1 hx]
    simp only [List.all_cons, List.all_nil, Bool.and_true]
    cases agS x a <;> cases agsS t <;> cases (t.all fun b => agS a b) <;> cases (t.all fun a => agS x a) <;> rfl
end Go.Proofs.Ytfmlenhakejefaa.Jn
end

/-
  Layer 17, plainly: the bytes of states and contexts.
-/
section
namespace Go.Proofs.Ytfmlenhakejefaa.Ca
set_option linter.unusedVariables false
open D Nd Qs

def headB (last : Int) (x : Nt) : List UInt8 := V.num x.1.1.toNat ++ (V.num (x.1.2 - last).toNat ++ (V.num x.2.1.1.toNat ++ (if x.2.1.1 = 0 then [] else V.num x.2.1.2.toNat)))
def timeB (x : Nt) : List UInt8 := V.num (2 * x.2.2.1.toNat + if x.2.2.2 = 0 then 1 else 0)
def nodeB (last : Int) (x : Nt) : List UInt8 := headB last x ++ timeB x
def nodesB : Int → List Nt → List UInt8
  | _, [] => []
  | last, x :: t => nodeB last x ++ nodesB x.1.2 t
def runeB (x : Nt) : List UInt8 := if x.2.2.2 = 0 then [] else R.enc x.2.2.2.toNat
def textB (l : List Nt) : List UInt8 := l.flatMap runeB
def stateB (l : List Nt) : List UInt8 := V.num l.length ++ (nodesB 0 l ++ (V.num (textB l).length ++ textB l))
def pairB (d : Dt) : List UInt8 := V.num d.1.toNat ++ V.num d.2.toNat
def dotsB (l : List Dt) : List UInt8 := V.num l.length ++ l.flatMap pairB
def ctxB (c : F.Ct) : List UInt8 := dotsB c.1 ++ dotsB c.2

/-! ### No number's bytes begin with another one's -/
theorem num_pf {n m : Nat} {s t : List UInt8} (hn : n < 18446744073709551616) (hm : m < 18446744073709551616) (h : V.num n ++ s = V.num m ++ t) : n = m ∧ s = t := by
  have h1 := V.rd_written hn s
  have h2 := V.rd_written hm t
  rw [h, h2] at h1
  have e : m = n := congrArg (fun p : Nat × Nat × Nat => p.1) h1
  subst e
  exact ⟨rfl, List.append_cancel_left h⟩
/-- The next node's counter is not before the last one's. -/
def Up : Int → List Nt → Prop
  | _, [] => True
  | last, x :: t => last ≤ x.1.2 ∧ VN x ∧ Up x.1.2 t
theorem up_of : ∀ (l : List Nt) (last : Int), (∀ x ∈ l, validN x = true) → SrtN l → (∀ x ∈ l, last ≤ x.1.2) → Up last l := by
  intro l
  induction l with
  | nil => intro _ _ _ _; trivial
  | cons x t ih =>
    intro last hv hs hb
    obtain ⟨h1, h2⟩ := List.pairwise_cons.1 hs
    refine ⟨hb x (List.mem_cons_self ..), valid_vn.1 (hv x (List.mem_cons_self ..)), ih _ (fun y hy => hv y (List.mem_cons_of_mem _ hy)) h2 fun y hy => ?_⟩
    have := h1 y hy
    unfold less at this
    split at this <;> simp at this <;> omega
theorem valid_up {l : List Nt} (h : validS l = true) : Up 0 l := by
  obtain ⟨hv, hs⟩ := validS_iff.1 h
  refine up_of l 0 hv hs fun x hx => ?_
  have := (valid_iff.1 (valid_vn.1 (hv x hx)).1)
  omega
theorem dot_fits {d : Dt} (h : validR d = true) : 1 ≤ d.1 ∧ d.1 ≤ 64 ∧ 1 ≤ d.2 ∧ d.2 ≤ 4294967295 := valid_iff.1 h
theorem par_fits {d : Dt} (h : named d) : (d.1 = 0 ∧ d.2 = 0) ∨ (1 ≤ d.1 ∧ d.1 ≤ 64 ∧ 1 ≤ d.2 ∧ d.2 ≤ 4294967295) := by
  rcases h with h | h
  · exact .inr (valid_iff.1 h)
  · exact .inl (by simpa [rootR] using h)
theorem head_pf {x y : Nt} {last : Int} {s t : List UInt8} (hx : VN x) (hy : VN y) (lx : last ≤ x.1.2) (ly : last ≤ y.1.2) (l0 : 0 ≤ last) (h : headB last x ++ s = headB last y ++ t) : x.1 = y.1 ∧ x.2.1 = y.2.1 ∧ s = t := by
  have dx := dot_fits hx.1
  have dy := dot_fits hy.1
  have px := par_fits hx.2.1
  have py := par_fits hy.2.1
  simp only [headB, List.append_assoc] at h
  obtain ⟨e1, h⟩ := num_pf (by omega) (by omega) h
  obtain ⟨e2, h⟩ := num_pf (by omega) (by omega) h
  obtain ⟨e3, h⟩ := num_pf (by omega) (by omega) h
  have e4 : x.2.1.1 = y.2.1.1 := by omega
  by_cases h0 : y.2.1.1 = 0
  · rw [if_pos (e4.trans h0), if_pos h0] at h
    exact ⟨Prod.ext (by omega) (by omega), Prod.ext e4 (by omega), h⟩
  · rw [if_neg (by omega), if_neg h0] at h
    obtain ⟨e5, h⟩ := num_pf (by omega) (by omega) h
    exact ⟨Prod.ext (by omega) (by omega), Prod.ext e4 (by omega), h⟩
theorem time_pf {x y : Nt} {s t : List UInt8} (hx : VN x) (hy : VN y) (h : timeB x ++ s = timeB y ++ t) : x.2.2.1 = y.2.2.1 ∧ (x.2.2.2 = 0 ↔ y.2.2.2 = 0) ∧ s = t := by
  have tx := hx.2.2.2
  have ty := hy.2.2.2
  unfold timeB at h
  obtain ⟨e, h⟩ := num_pf (by split <;> omega) (by split <;> omega) h
  by_cases h0 : x.2.2.2 = 0 <;> by_cases h1 : y.2.2.2 = 0 <;> simp only [h0, h1, if_true, if_false] at e
  · exact ⟨by omega, by simp [h0, h1], h⟩
  · omega
  · omega
  · exact ⟨by omega, by simp [h0, h1], h⟩
theorem rune_pf {x y : Nt} {s t : List UInt8} (hx : VN x) (hy : VN y) (hd : x.2.2.2 = 0 ↔ y.2.2.2 = 0) (h : runeB x ++ s = runeB y ++ t) : x.2.2.2 = y.2.2.2 ∧ s = t := by
  unfold runeB at h
  by_cases h0 : x.2.2.2 = 0
  · rw [if_pos h0, if_pos (hd.1 h0)] at h
    exact ⟨h0.trans (hd.1 h0).symm, h⟩
  · have h1 : ¬ y.2.2.2 = 0 := fun k => h0 (hd.2 k)
    rw [if_neg h0, if_neg h1] at h
    obtain ⟨n, en, vn, hn, _⟩ := vld_nat (hx.2.2.2.2.2.resolve_left h0)
    obtain ⟨m, em, vm, hm, _⟩ := vld_nat (hy.2.2.2.2.2.resolve_left h1)
    rw [R.vld_scal, Bool.and_eq_true] at vn vm
    rw [en, em, Int.toNat_natCast, Int.toNat_natCast] at h
    have a := R.fst1_enc n s vn.1
    have b := R.fst1_enc m t vm.1
    rw [h, b] at a
    have e : m = n := congrArg (fun p : Nat × Nat => p.1) a
    subst e
    exact ⟨by rw [en, em], List.append_cancel_left h⟩
/-- Of two lists of equal lengths: the same but for the runes of what is alive. -/
def Like : List Nt → List Nt → Prop
  | [], [] => True
  | x :: s, y :: t => (x.1 = y.1 ∧ x.2.1 = y.2.1 ∧ x.2.2.1 = y.2.2.1 ∧ (x.2.2.2 = 0 ↔ y.2.2.2 = 0) ∧ VN x ∧ VN y) ∧ Like s t
  | _, _ => False
theorem nodes_pf : ∀ (a b : List Nt) (last : Int) (s t : List UInt8), a.length = b.length → Up last a → Up last b → 0 ≤ last → nodesB last a ++ s = nodesB last b ++ t → Like a b ∧ s = t := by
  intro a
  induction a with
  | nil =>
    intro b last s t hl _ _ _ h
    rcases b with _ | ⟨y, b⟩
    · exact ⟨trivial, h⟩
    · simp at hl
  | cons x a ih =>
    intro b last s t hl ha hb h0 h
    rcases b with _ | ⟨y, b⟩
    · simp at hl
    · simp only [nodesB, nodeB, List.append_assoc] at h
      obtain ⟨e1, e2, h⟩ := head_pf ha.2.1 hb.2.1 ha.1 hb.1 h0 h
      obtain ⟨e3, e4, h⟩ := time_pf ha.2.1 hb.2.1 h
      rw [← e1] at h
      obtain ⟨hk, h⟩ := ih b x.1.2 s t (by simpa using hl) ha.2.2 (by rw [e1]; exact hb.2.2) (by have := dot_fits ha.2.1.1; omega) h
      exact ⟨⟨⟨e1, e2, e3, e4, ha.2.1, hb.2.1⟩, hk⟩, h⟩
theorem text_pf : ∀ (a b : List Nt) (s t : List UInt8), Like a b → textB a ++ s = textB b ++ t → a = b ∧ s = t := by
  intro a
  induction a with
  | nil =>
    intro b s t hk h
    rcases b with _ | ⟨y, b⟩
    · exact ⟨rfl, h⟩
    · exact hk.elim
  | cons x a ih =>
    intro b s t hk h
    rcases b with _ | ⟨y, b⟩
    · exact hk.elim
    · obtain ⟨⟨e1, e2, e3, e4, hx, hy⟩, hk⟩ := hk
      simp only [textB, List.flatMap_cons, List.append_assoc] at h
      obtain ⟨e5, h⟩ := rune_pf hx hy e4 h
      obtain ⟨e6, h⟩ := ih b s t hk h
      exact ⟨by rw [e6, show x = y from Prod.ext e1 (Prod.ext e2 (Prod.ext e3 e5))], h⟩
theorem rune_len (x : Nt) : (runeB x).length ≤ 4 := by
  unfold runeB
  split
  · exact Nat.zero_le _
  · exact (R.enc_len _).2
theorem text_len (l : List Nt) : (textB l).length ≤ 4 * l.length := by
  unfold textB
  induction l with
  | nil => exact Nat.le_refl _
  | cons x t ih =>
    have := rune_len x
    rw [List.flatMap_cons, List.length_append, List.length_cons]
    omega
/-- No state's bytes begin with another one's. -/
theorem state_pf {a b : List Nt} {s t : List UInt8} (ha : validS a = true) (hb : validS b = true) (la : a.length ≤ 4611686018427387903) (lb : b.length ≤ 4611686018427387903) (h : stateB a ++ s = stateB b ++ t) : a = b ∧ s = t := by
  have ka := text_len a
  have kb := text_len b
  simp only [stateB, List.append_assoc] at h
  obtain ⟨e1, h⟩ := num_pf (by omega) (by omega) h
  obtain ⟨hk, h⟩ := nodes_pf a b 0 _ _ e1 (valid_up ha) (valid_up hb) (Int.le_refl _) h
  obtain ⟨-, h⟩ := num_pf (by omega) (by omega) h
  exact text_pf a b s t hk h
theorem state_ne (l : List Nt) : stateB l ≠ [] := by
  unfold stateB
  intro h
  exact V.num_ne _ (List.append_eq_nil_iff.1 h).1
/-- The same for contexts. -/
theorem pair_pf {x y : Dt} {s t : List UInt8} (hx : validR x = true) (hy : validR y = true) (h : pairB x ++ s = pairB y ++ t) : x = y ∧ s = t := by
  have dx := dot_fits hx
  have dy := dot_fits hy
  simp only [pairB, List.append_assoc] at h
  obtain ⟨e1, h⟩ := num_pf (by omega) (by omega) h
  obtain ⟨e2, h⟩ := num_pf (by omega) (by omega) h
  exact ⟨Prod.ext (by omega) (by omega), h⟩
theorem pairs_pf : ∀ (a b : List Dt) (s t : List UInt8), a.length = b.length → (∀ x ∈ a, validR x = true) → (∀ x ∈ b, validR x = true) → a.flatMap pairB ++ s = b.flatMap pairB ++ t → a = b ∧ s = t := by
  intro a
  induction a with
  | nil =>
    intro b s t hl _ _ h
    rcases b with _ | ⟨y, b⟩
    · exact ⟨rfl, h⟩
    · simp at hl
  | cons x a ih =>
    intro b s t hl ha hb h
    rcases b with _ | ⟨y, b⟩
    · simp at hl
    · simp only [List.flatMap_cons, List.append_assoc] at h
      obtain ⟨e, h⟩ := pair_pf (ha x (List.mem_cons_self ..)) (hb y (List.mem_cons_self ..)) h
      obtain ⟨e2, h⟩ := ih b s t (by simpa using hl) (fun z hz => ha z (List.mem_cons_of_mem _ hz)) (fun z hz => hb z (List.mem_cons_of_mem _ hz)) h
      exact ⟨by rw [e, e2], h⟩
theorem dots_pf {a b : List Dt} {s t : List UInt8} (ha : ∀ x ∈ a, validR x = true) (hb : ∀ x ∈ b, validR x = true) (la : a.length ≤ 4611686018427387903) (lb : b.length ≤ 4611686018427387903) (h : dotsB a ++ s = dotsB b ++ t) : a = b ∧ s = t := by
  simp only [dotsB, List.append_assoc] at h
  obtain ⟨e, h⟩ := num_pf (by omega) (by omega) h
  exact pairs_pf a b s t e ha hb h
theorem ctx_pf {a b : F.Ct} {s t : List UInt8} (ha : F.Vc a) (hb : F.Vc b) (l1 : a.1.length ≤ 4611686018427387903) (l2 : b.1.length ≤ 4611686018427387903) (l3 : a.2.length ≤ 4611686018427387903) (l4 : b.2.length ≤ 4611686018427387903) (h : ctxB a ++ s = ctxB b ++ t) : a = b ∧ s = t := by
  simp only [ctxB, List.append_assoc] at h
  obtain ⟨e1, h⟩ := dots_pf ha.1.1 hb.1.1 l1 l2 h
  obtain ⟨e2, h⟩ := dots_pf ha.2.2 hb.2.2 l3 l4 h
  exact ⟨Prod.ext e1 e2, h⟩

/-! ### Killing a node -/
theorem num_mono : ∀ (k n m : Nat), m < k → n ≤ m → (V.num n).length ≤ (V.num m).length := by
  intro k
  induction k with
  | zero => intro n m h; omega
  | succ k ih =>
    intro n m hk h
    by_cases h1 : n < 128
    · rw [V.num_small h1]
      exact V.num_pos m
    · rw [V.num_big h1, V.num_big (by omega : ¬ m < 128), List.length_cons, List.length_cons]
      have := ih (n / 128) (m / 128) (by omega) (by omega)
      omega
theorem num_twice (n : Nat) : (V.num (2 * n + 1)).length = (V.num (2 * n)).length := by
  by_cases h : 2 * n < 128
  · rw [V.num_small h, V.num_small (by omega)]; rfl
  · rw [V.num_big h, V.num_big (by omega), List.length_cons, List.length_cons, show (2 * n + 1) / 128 = 2 * n / 128 by omega]
theorem kill_node (last : Int) (x : Nt) : (nodeB last (killN x)).length = (nodeB last x).length := by
  unfold nodeB
  rw [List.length_append, List.length_append]
  have e : headB last (killN x) = headB last x := rfl
  rw [e]
  have : (timeB (killN x)).length = (timeB x).length := by
    unfold timeB
    show (V.num (2 * x.2.2.1.toNat + if (0 : Int) = 0 then 1 else 0)).length = _
    rw [if_pos rfl, num_twice]
    split
    · rw [num_twice]
    · rfl
  omega
theorem kill_nodes : ∀ (l : List Nt) (last : Int) (i : Nat), (nodesB last (l.modify i killN)).length = (nodesB last l).length := by
  intro l
  induction l with
  | nil => intro last i; simp
  | cons x t ih =>
    intro last i
    rcases i with _ | i
    · simp only [List.modify_zero_cons, nodesB, List.length_append, kill_node]
      rfl
    · simp only [List.modify_succ_cons, nodesB, List.length_append, ih]
theorem kill_text : ∀ (l : List Nt) (i : Nat), (textB (l.modify i killN)).length ≤ (textB l).length := by
  intro l
  induction l with
  | nil => intro i; simp
  | cons x t ih =>
    intro i
    rcases i with _ | i
    · simp only [List.modify_zero_cons, textB, List.flatMap_cons, List.length_append]
      have : runeB (killN x) = [] := rfl
      rw [this]
      simp
    · have := ih i
      simp only [textB] at this
      simp only [List.modify_succ_cons, textB, List.flatMap_cons, List.length_append]
      omega
theorem kill_len (l : List Nt) (i : Nat) : (stateB (l.modify i killN)).length ≤ (stateB l).length := by
  have h1 := kill_nodes l 0 i
  have h2 := kill_text l i
  have h3 := num_mono _ _ _ (Nat.lt_succ_self _) h2
  unfold stateB
  simp only [List.length_append, List.length_modify]
  omega
theorem kill_valid {l : List Nt} (h : validS l = true) (i : Nat) : validS (l.modify i killN) = true := by
  obtain ⟨hv, hs⟩ := validS_iff.1 h
  have key : ∀ (l : List Nt) (i : Nat), (l.modify i killN).map (·.1) = l.map (·.1) := by
    intro l
    induction l with
    | nil => intro i; simp
    | cons x t ih =>
      intro i
      rcases i with _ | i
      · simp [killN]
      · simp [ih]
  have e := key l i
  unfold validS at h ⊢
  rw [Bool.and_eq_true] at h ⊢
  refine ⟨List.all_eq_true.2 fun x hx => ?_, by rw [e]; exact h.2⟩
  obtain ⟨j, hj, rfl⟩ := List.mem_iff_getElem.1 hx
  rw [List.getElem_modify]
  have hm := hv _ (List.getElem_mem (l := l) (n := j) (by simpa using hj))
  split
  · rw [valid_vn] at hm ⊢
    exact ⟨hm.1, hm.2.1, hm.2.2.1, hm.2.2.2.1, hm.2.2.2.2.1, .inl rfl⟩
  · exact hm
end Go.Proofs.Ytfmlenhakejefaa.Ca
end

/-
  Layer 17, plainly: many nodes, many dots.
-/
section
namespace Go.Proofs.Ytfmlenhakejefaa.Ca
set_option linter.unusedVariables false
open D Nd Qs

def longN (r : Int) (i : Nat) : Nt := ((r, 2 * (i : Int) + 2), (0, 0), 1 + ((i % 60 : Nat) : Int), 97)
def longS (r : Int) (m : Nat) : List Nt := (List.range m).map (longN r)
def longD (r : Int) (m : Nat) : List Dt := (List.range m).map fun (i : Nat) => (r, 2 * (i : Int) + 2)
theorem long_len (r : Int) (m : Nat) : (longS r m).length = m := by simp [longS]
theorem longD_len (r : Int) (m : Nat) : (longD r m).length = m := by simp [longD]
theorem long_dots (r : Int) (m : Nat) : (longS r m).map (·.1) = longD r m := by
  simp [longS, longD, longN, Function.comp_def]
theorem longD_valid {r : Int} (h1 : 1 ≤ r) (h2 : r ≤ 64) {m : Nat} (hm : m ≤ 1000000) : ∀ x ∈ longD r m, validR x = true := by
  intro x hx
  simp only [longD, List.mem_map, List.mem_range] at hx
  obtain ⟨i, hi, rfl⟩ := hx
  exact valid_iff.2 ⟨by show (0 : Int) < r; omega, by show r ≤ 64; omega, by show (0 : Int) < 2 * (i : Int) + 2; omega, by show 2 * (i : Int) + 2 ≤ 4294967295; omega⟩
theorem longD_srt (r : Int) (m : Nat) : Srt (longD r m) := by
  unfold Srt longD
  rw [List.pairwise_map]
  refine List.Pairwise.imp ?_ (List.pairwise_lt_range (n := m))
  intro a b h
  unfold less
  rw [if_neg (by show ¬ (2 * (a : Int) + 2 = 2 * (b : Int) + 2); omega)]
  exact decide_eq_true (by show 2 * (a : Int) + 2 < 2 * (b : Int) + 2; omega)
theorem long_valid {r : Int} (h1 : 1 ≤ r) (h2 : r ≤ 64) {m : Nat} (hm : m ≤ 1000000) : validS (longS r m) = true := by
  refine validS_iff.2 ⟨fun x hx => ?_, ?_⟩
  · have hd := longD_valid h1 h2 hm x.1 (by rw [← long_dots]; exact List.mem_map_of_mem hx)
    simp only [longS, List.mem_map, List.mem_range] at hx
    obtain ⟨i, hi, rfl⟩ := hx
    refine valid_vn.2 ⟨hd, .inr (by rfl), ?_, ?_, ?_, .inr (by show R.vld 97 = true; decide)⟩
    · intro h
      have : (0 : Int) = 2 * (i : Int) + 2 := congrArg (fun d : Dt => d.2) h
      omega
    · show (1 : Int) ≤ 1 + ((i % 60 : Nat) : Int)
      omega
    · show 1 + ((i % 60 : Nat) : Int) ≤ 4611686018427387904
      omega
  · have := longD_srt r m
    rw [← long_dots] at this
    unfold Srt at this
    rw [List.pairwise_map] at this
    exact this
theorem long_step (r : Int) (m : Nat) : longS r (m + 1) = longS r m ++ [longN r m] := by
  simp [longS, List.range_succ]
theorem longD_step (r : Int) (m : Nat) : longD r (m + 1) = longD r m ++ [(r, 2 * (m : Int) + 2)] := by
  simp [longD, List.range_succ]
theorem nodes_app : ∀ (a b : List Nt) (last : Int), nodesB last (a ++ b) = nodesB last a ++ nodesB ((a.getLast?.map (·.1.2)).getD last) b := by
  intro a
  induction a with
  | nil => intro b last; simp [nodesB]
  | cons x t ih =>
    intro b last
    simp only [List.cons_append, nodesB, ih, List.append_assoc]
    rcases t with _ | ⟨y, t⟩
    · simp
    · have e : ((x :: y :: t).getLast?) = (y :: t).getLast? := by simp [List.getLast?_cons_cons]
      rw [e]
      have : ∃ z, (y :: t).getLast? = some z := by
        rcases h : (y :: t).getLast? with _ | z
        · simp at h
        · exact ⟨z, rfl⟩
      obtain ⟨z, hz⟩ := this
      rw [hz]
      rfl
theorem small_one {n : Nat} (h : n < 128) : (V.num n).length = 1 := by rw [V.num_small h]; rfl
theorem long_nodes {r : Int} (h1 : 1 ≤ r) (h2 : r ≤ 64) (m : Nat) : (nodesB 0 (longS r m)).length = 4 * m := by
  induction m with
  | zero => rfl
  | succ m ih =>
    have hl : ((longS r m).getLast?.map (·.1.2)).getD 0 = 2 * (m : Int) := by
      rcases m with _ | k
      · rfl
      · rw [long_step]
        simp [longN]
        omega
    rw [long_step, nodes_app, List.length_append, ih, hl]
    simp only [nodesB, nodeB, headB, timeB, longN, List.length_append, List.append_nil]
    rw [small_one (by omega), small_one (by omega), small_one (by omega), small_one (by simp; omega)]
    simp
    omega
theorem long_text (r : Int) (m : Nat) : (textB (longS r m)).length = m := by
  induction m with
  | zero => rfl
  | succ m ih =>
    rw [long_step]
    unfold textB at ih ⊢
    rw [List.flatMap_append, List.length_append, ih]
    rfl
theorem three {n : Nat} (h1 : 16384 ≤ n) (h2 : n < 2097152) : (V.num n).length = 3 := by
  rw [V.num_big (by omega), V.num_big (by omega), V.num_small (by omega)]
  rfl
theorem long_bytes {r : Int} (h1 : 1 ≤ r) (h2 : r ≤ 64) {m : Nat} (hm : 65534 ≤ m) (hm2 : m ≤ 65536) : (stateB (longS r m)).length = 6 + 5 * m := by
  unfold stateB
  simp only [List.length_append, long_len, long_text, long_nodes h1 h2]
  rw [three (by omega) (by omega)]
  omega
/-! ### The context -/
theorem two_more {n : Nat} (h : 128 ≤ n) : 2 ≤ (V.num n).length := by
  rw [V.num_big (by omega), List.length_cons]
  have := V.num_pos (n / 128)
  omega
theorem three_more {n : Nat} (h : 16384 ≤ n) : 3 ≤ (V.num n).length := by
  rw [V.num_big (by omega), List.length_cons]
  have := two_more (n := n / 128) (by omega)
  omega
theorem long_pairs (r : Int) (m : Nat) : 2 * m + (m - 63) + (m - 8191) ≤ ((longD r m).flatMap pairB).length := by
  induction m with
  | zero => simp
  | succ m ih =>
    rw [longD_step, List.flatMap_append, List.length_append]
    have hp : (([(r, 2 * (m : Int) + 2)] : List Dt).flatMap pairB).length = (V.num r.toNat).length + (V.num (2 * m + 2)).length := by
      simp only [List.flatMap_cons, List.flatMap_nil, List.append_nil, pairB, List.length_append]
      congr 2
    have a := V.num_pos r.toNat
    have b := V.num_pos (2 * m + 2)
    rw [hp]
    by_cases h1 : 63 ≤ m
    · have c := two_more (n := 2 * m + 2) (by omega)
      by_cases h2 : 8191 ≤ m
      · have d := three_more (n := 2 * m + 2) (by omega)
        omega
      · omega
    · omega
theorem long_ctx (r : Int) {m : Nat} (hm : 65534 ≤ m) : 3 * m < (ctxB ([], longD r m)).length := by
  have h := long_pairs r m
  have h3 := V.num_pos (longD r m).length
  unfold ctxB dotsB
  simp only [List.length_append]
  omega
theorem long_comp {r : Int} (h1 : 1 ≤ r) (h2 : r ≤ 64) {m : Nat} (hm : m ≤ 1000000) : F.isCompR (([], longD r m) : F.Ct) = true := by
  refine F.comp_iff.2 ⟨⟨⟨fun x hx => by simp at hx, List.Pairwise.nil⟩, longD_srt r m, longD_valid h1 h2 hm⟩, fun x hx => ?_⟩
  have hv := longD_valid h1 h2 hm x hx
  simp only [longD, List.mem_map, List.mem_range] at hx
  obtain ⟨i, hi, rfl⟩ := hx
  show E.getV [] r + 1 < 2 * (i : Int) + 2
  rw [show E.getV [] r = 0 from rfl]
  omega
end Go.Proofs.Ytfmlenhakejefaa.Ca
end
