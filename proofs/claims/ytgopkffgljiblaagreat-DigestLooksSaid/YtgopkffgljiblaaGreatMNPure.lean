/-
  Nodes, plainly: which are valid, which stand before others, which agree, what they are merged to.
-/
import Derived.Test.YtgopkffgljiblaaGreatMDText
import Derived.Test.YtgopkffgljiblaaGreatRHex

section
namespace Go.Proofs.YtgopkffgljiblaaGreat.Nd
set_option linter.unusedVariables false
open D

/-- A node: its dot, its parent, its time, its rune. -/
abbrev Nt := Dt × Dt × Int × Int
def zeroN : Nt := ((0, 0), (0, 0), 0, 0)
def validN (n : Nt) : Bool := validR n.1 && (rootR n.2.1 || validR n.2.1) && !decide (n.2.1 = n.1) && decide (1 ≤ n.2.2.1) && decide (n.2.2.1 ≤ 4611686018427387904) && (decide (n.2.2.2 = 0) || R.vld n.2.2.2)
def VN (n : Nt) : Prop := validR n.1 = true ∧ named n.2.1 ∧ n.2.1 ≠ n.1 ∧ 1 ≤ n.2.2.1 ∧ n.2.2.1 ≤ 4611686018427387904 ∧ (n.2.2.2 = 0 ∨ R.vld n.2.2.2 = true)
theorem valid_vn {n : Nt} : validN n = true ↔ VN n := by
  unfold validN VN named
  simp only [Bool.and_eq_true, Bool.or_eq_true, Bool.not_eq_true', decide_eq_true_eq, decide_eq_false_iff_not]
  constructor
  · rintro ⟨⟨⟨⟨⟨h1, h2⟩, h3⟩, h4⟩, h5⟩, h6⟩
    exact ⟨h1, h2.symm, h3, h4, h5, h6⟩
  · rintro ⟨h1, h2, h3, h4, h5, h6⟩
    exact ⟨⟨⟨⟨⟨h1, h2.symm⟩, h3⟩, h4⟩, h5⟩, h6⟩
def killN (n : Nt) : Nt := (n.1, n.2.1, n.2.2.1, 0)
def deadN (n : Nt) : Bool := decide (n.2.2.2 = 0)
def beforeN (a b : Nt) : Bool := if a.2.2.1 = b.2.2.1 then less b.1 a.1 else decide (b.2.2.1 < a.2.2.1)
def agreeN (a b : Nt) : Bool := decide (a.1 = b.1) && decide (a.2.1 = b.2.1) && decide (a.2.2.1 = b.2.2.1) && (decide (a.2.2.2 = b.2.2.2) || decide (a.2.2.2 = 0) || decide (b.2.2.2 = 0))
def mergeN (a b : Nt) : Nt × Int := if (validN a && validN b) = true then (if agreeN a b = true then (if b.2.2.2 = 0 then b else a, 0) else (zeroN, 15)) else (zeroN, 2)
theorem agree_iff {a b : Nt} : agreeN a b = true ↔ a.1 = b.1 ∧ a.2.1 = b.2.1 ∧ a.2.2.1 = b.2.2.1 ∧ (a.2.2.2 = b.2.2.2 ∨ a.2.2.2 = 0 ∨ b.2.2.2 = 0) := by
  unfold agreeN
  simp only [Bool.and_eq_true, Bool.or_eq_true, decide_eq_true_eq]
  constructor
  · rintro ⟨⟨⟨h1, h2⟩, h3⟩, (h4 | h4) | h4⟩
    · exact ⟨h1, h2, h3, .inl h4⟩
    · exact ⟨h1, h2, h3, .inr (.inl h4)⟩
    · exact ⟨h1, h2, h3, .inr (.inr h4)⟩
  · rintro ⟨h1, h2, h3, h4 | h4 | h4⟩
    · exact ⟨⟨⟨h1, h2⟩, h3⟩, .inl (.inl h4)⟩
    · exact ⟨⟨⟨h1, h2⟩, h3⟩, .inl (.inr h4)⟩
    · exact ⟨⟨⟨h1, h2⟩, h3⟩, .inr h4⟩
theorem node_ext {a b : Nt} (h1 : a.1 = b.1) (h2 : a.2.1 = b.2.1) (h3 : a.2.2.1 = b.2.2.1) (h4 : a.2.2.2 = b.2.2.2) : a = b := Prod.ext h1 (Prod.ext h2 (Prod.ext h3 h4))

/-! ### Before -/
theorem before_iff {a b : Nt} : beforeN a b = true ↔ b.2.2.1 < a.2.2.1 ∨ (a.2.2.1 = b.2.2.1 ∧ less b.1 a.1 = true) := by
  unfold beforeN
  split
  · rename_i h
    exact ⟨fun k => .inr ⟨h, k⟩, fun k => k.elim (fun k => absurd h (by omega)) (·.2)⟩
  · rename_i h
    rw [decide_eq_true_eq]
    exact ⟨.inl, fun k => k.elim id fun k => absurd k.1 h⟩
theorem before_irr (a : Nt) : beforeN a a = false := by
  rw [← Bool.not_eq_true, before_iff]
  rintro (h | ⟨_, h⟩)
  · omega
  · rw [less_irr] at h; cases h
theorem before_trans {a b c : Nt} (h : beforeN a b = true) (k : beforeN b c = true) : beforeN a c = true := by
  rw [before_iff] at *
  rcases h with h | ⟨h1, h2⟩ <;> rcases k with k | ⟨k1, k2⟩
  · left; omega
  · left; omega
  · left; omega
  · right; exact ⟨by omega, less_trans k2 h2⟩
theorem before_asymm {a b : Nt} (h : beforeN a b = true) : beforeN b a = false := by
  rw [← Bool.not_eq_true]
  intro k
  have := before_trans h k
  rw [before_irr] at this; cases this
/-- Of two nodes with different times or dots just one stands before the other one. -/
theorem before_one (a b : Nt) : (beforeN a b || beforeN b a) = (!decide (a.2.2.1 = b.2.2.1) || !decide (a.1 = b.1)) := by
  rw [Bool.eq_iff_iff]
  simp only [Bool.or_eq_true, before_iff, Bool.not_eq_true', decide_eq_false_iff_not]
  constructor
  · rintro ((h | ⟨h1, h2⟩) | (h | ⟨h1, h2⟩))
    · left; omega
    · right; exact fun e => less_ne h2 e.symm
    · left; omega
    · right; exact fun e => less_ne h2 e
  · intro h
    by_cases ht : a.2.2.1 = b.2.2.1
    · have hd : a.1 ≠ b.1 := h.elim (fun k => absurd ht k) id
      rcases h1 : less b.1 a.1 with _ | _
      · rcases h2 : less a.1 b.1 with _ | _
        · exact absurd (less_tri h2 h1) hd
        · exact .inr (.inr ⟨ht.symm, rfl⟩)
      · exact .inl (.inr ⟨ht, rfl⟩)
    · rcases Int.lt_or_lt_of_ne ht with k | k
      · exact .inr (.inl k)
      · exact .inl (.inl k)

/-! ### Merge -/
theorem agree_comm (a b : Nt) : agreeN a b = agreeN b a := by
  rw [Bool.eq_iff_iff, agree_iff, agree_iff]
  constructor
  · rintro ⟨h1, h2, h3, h4⟩
    exact ⟨h1.symm, h2.symm, h3.symm, h4.elim (fun h => .inl h.symm) fun h => .inr h.symm⟩
  · rintro ⟨h1, h2, h3, h4⟩
    exact ⟨h1.symm, h2.symm, h3.symm, h4.elim (fun h => .inl h.symm) fun h => .inr h.symm⟩
theorem pick_comm {a b : Nt} (h : agreeN a b = true) : (if b.2.2.2 = 0 then b else a) = if a.2.2.2 = 0 then a else b := by
  obtain ⟨h1, h2, h3, h4⟩ := agree_iff.1 h
  by_cases ha : a.2.2.2 = 0 <;> by_cases hb : b.2.2.2 = 0
  · rw [if_pos ha, if_pos hb]; exact (node_ext h1 h2 h3 (ha.trans hb.symm)).symm
  · rw [if_pos ha, if_neg hb]
  · rw [if_neg ha, if_pos hb]
  · rw [if_neg ha, if_neg hb]
    exact node_ext h1 h2 h3 (h4.elim id fun h => h.elim (fun h => absurd h ha) fun h => absurd h hb)
theorem merge_comm (a b : Nt) : mergeN a b = mergeN b a := by
  unfold mergeN
  rw [Bool.and_comm, agree_comm]
  split
  · split
    · rename_i _ h
      rw [pick_comm (by rw [agree_comm]; exact h)]
    · rfl
  · rfl
theorem agree_self (a : Nt) : agreeN a a = true := agree_iff.2 ⟨rfl, rfl, rfl, .inl rfl⟩
theorem merge_self {a : Nt} (h : validN a = true) : mergeN a a = (a, 0) := by
  unfold mergeN
  rw [h, agree_self, Bool.and_self, if_pos rfl, if_pos rfl]
  split <;> rfl
theorem merge_yes {a b : Nt} (h : (mergeN a b).2 = 0) : validN a = true ∧ validN b = true ∧ agreeN a b = true ∧ (mergeN a b).1 = if b.2.2.2 = 0 then b else a := by
  unfold mergeN at h ⊢
  split at h
  · rename_i hv
    split at h
    · rename_i ha
      rw [if_pos hv, if_pos ha]
      rw [Bool.and_eq_true] at hv
      exact ⟨hv.1, hv.2, ha, rfl⟩
    · cases h
  · cases h
theorem merge_code (a b : Nt) : (mergeN a b).2 = 0 ∨ (mergeN a b).1 = zeroN ∧ ((mergeN a b).2 = 2 ∨ (mergeN a b).2 = 15) := by
  unfold mergeN
  split
  · split
    · exact .inl rfl
    · exact .inr ⟨rfl, .inr rfl⟩
  · exact .inr ⟨rfl, .inl rfl⟩
theorem merge_dead {a b : Nt} (h : (mergeN a b).2 = 0) : deadN (mergeN a b).1 = (deadN a || deadN b) ∧ validN (mergeN a b).1 = true := by
  obtain ⟨h1, h2, h3, h4⟩ := merge_yes h
  rw [h4]
  unfold deadN
  by_cases hb : b.2.2.2 = 0
  · rw [if_pos hb]; exact ⟨by simp [hb], h2⟩
  · rw [if_neg hb]; exact ⟨by simp [hb], h1⟩
theorem merge_agree {a b c : Nt} (hab : agreeN a b = true) (hbc : agreeN b c = true) (hac : agreeN a c = true) : agreeN (if b.2.2.2 = 0 then b else a) c = true := by
  split
  · exact hbc
  · exact hac
/-- How three nodes are grouped does not matter. -/
theorem merge_assoc {a b c : Nt} (h1 : (mergeN a b).2 = 0) (h2 : (mergeN b c).2 = 0) (h3 : (mergeN a c).2 = 0) :
    (mergeN (mergeN a b).1 c).2 = 0 ∧ mergeN a (mergeN b c).1 = mergeN (mergeN a b).1 c := by
  obtain ⟨va, vb, hab, e1⟩ := merge_yes h1
  obtain ⟨-, vc, hbc, e2⟩ := merge_yes h2
  obtain ⟨-, -, hac, e3⟩ := merge_yes h3
  have v1 := (merge_dead h1).2
  have v2 := (merge_dead h2).2
  have g1 := merge_agree hab hbc hac
  have g2 : agreeN a (if c.2.2.2 = 0 then c else b) = true := by
    split
    · exact hac
    · exact hab
  have m1 : mergeN (mergeN a b).1 c = (if c.2.2.2 = 0 then c else if b.2.2.2 = 0 then b else a, 0) := by
    rw [e1] at v1 ⊢
    unfold mergeN
    rw [v1, vc, g1, Bool.and_self, if_pos rfl, if_pos rfl]
  have m2 : mergeN a (mergeN b c).1 = (if (if c.2.2.2 = 0 then c else b).2.2.2 = 0 then (if c.2.2.2 = 0 then c else b) else a, 0) := by
    rw [e2] at v2 ⊢
    unfold mergeN
    rw [va, v2, g2, Bool.and_self, if_pos rfl, if_pos rfl]
  rw [m1, m2]
  refine ⟨rfl, ?_⟩
  by_cases hc : c.2.2.2 = 0
  · simp [hc]
  · by_cases hb : b.2.2.2 = 0 <;> simp [hc, hb]

/-! ### What is written -/
theorem dig_range (u : Nat) : ∀ c ∈ Lib.decDigits u, 48 ≤ c.toNat ∧ c.toNat ≤ 57 := by
  induction u using Nat.strongRecOn with
  | _ u ih =>
    intro c hc
    by_cases h : u < 10
    · rw [dig_small h] at hc
      rw [List.mem_singleton.1 hc, dig_nat h]
      omega
    · rw [dig_big h] at hc
      rcases List.mem_append.1 hc with hc | hc
      · exact ih (u / 10) (by omega) c hc
      · rw [List.mem_singleton.1 hc, dig_nat (Nat.mod_lt _ (by omega))]
        omega
theorem dig_sp (u : Nat) : (32 : UInt8) ∉ Lib.decDigits u := fun h => absurd (dig_range u _ h).1 (by decide)
theorem txt_sp (d : Dt) : (32 : UInt8) ∉ txtD d := by
  intro hc
  unfold txtD at hc
  split at hc
  · simp [rootT] at hc
  · rcases List.mem_append.1 hc with hc | hc
    · rcases List.mem_append.1 hc with hc | hc
      · exact dig_sp _ hc
      · simp at hc
    · exact dig_sp _ hc
theorem du_sp (d : Nat) (h : d < 16) : R.du d ≠ 32 := by
  have : d = 0 ∨ d = 1 ∨ d = 2 ∨ d = 3 ∨ d = 4 ∨ d = 5 ∨ d = 6 ∨ d = 7 ∨ d = 8 ∨ d = 9 ∨ d = 10 ∨ d = 11 ∨ d = 12 ∨ d = 13 ∨ d = 14 ∨ d = 15 := by omega
  rcases this with rfl | rfl | rfl | rfl | rfl | rfl | rfl | rfl | rfl | rfl | rfl | rfl | rfl | rfl | rfl | rfl <;> decide
theorem nm_sp (n : Nat) : (32 : UInt8) ∉ R.nm n := by
  intro hc
  unfold R.nm at hc
  rcases List.mem_append.1 hc with hc | hc
  · rcases List.mem_append.1 hc with hc | hc
    · simp at hc
    · have := List.eq_of_mem_replicate hc
      exact absurd this (by decide)
  · obtain ⟨d, hd, e⟩ := List.mem_map.1 hc
    exact du_sp d (R.digs_lt n d hd) e
def runeT (r : Int) : List UInt8 := if r = 0 then [45] else R.nm r.toNat
theorem rune_sp (r : Int) : (32 : UInt8) ∉ runeT r := by
  unfold runeT
  split
  · simp
  · exact nm_sp _
def txtN (n : Nt) : List UInt8 := txtD n.1 ++ 32 :: (txtD n.2.1 ++ 32 :: (Lib.decDigits n.2.2.1.toNat ++ 32 :: runeT n.2.2.2))

/-! ### The parts between spaces -/
def wordsL : List UInt8 → List (List UInt8)
  | [] => [[]]
  | c :: t => if c = 32 then [] :: wordsL t else match wordsL t with | [] => [[c]] | x :: r => (c :: x) :: r
theorem words_ne : ∀ l, wordsL l ≠ []
  | [] => by simp [wordsL]
  | c :: t => by
    rw [wordsL]
    split
    · simp
    · split <;> simp
theorem words_app : ∀ (x y : List UInt8), (32 : UInt8) ∉ x → wordsL (x ++ 32 :: y) = x :: wordsL y
  | [], y, _ => by rw [List.nil_append, wordsL, if_pos rfl]
  | c :: t, y, h => by
    have hc : c ≠ 32 := fun e => h (by rw [e]; simp)
    rw [List.cons_append, wordsL, if_neg hc, words_app t y fun hh => h (by simp [hh])]
theorem words_one : ∀ (x : List UInt8), (32 : UInt8) ∉ x → wordsL x = [x]
  | [], _ => rfl
  | c :: t, h => by
    have hc : c ≠ 32 := fun e => h (by rw [e]; simp)
    rw [wordsL, if_neg hc, words_one t fun hh => h (by simp [hh])]
theorem words_txt (n : Nt) : wordsL (txtN n) = [txtD n.1, txtD n.2.1, Lib.decDigits n.2.2.1.toNat, runeT n.2.2.2] := by
  unfold txtN
  rw [words_app _ _ (txt_sp _), words_app _ _ (txt_sp _), words_app _ _ (dig_sp _), words_one _ (rune_sp _)]
theorem words_len : ∀ l : List UInt8, (wordsL l).length ≤ l.length + 1
  | [] => by simp [wordsL]
  | c :: t => by
    have ih := words_len t
    rw [wordsL]
    split
    · simp; omega
    · split
      · simp
      · rename_i h; rw [h] at ih; simp at ih ⊢; omega
/-- What a split into at most so many parts gives. -/
def splitW : Nat → List UInt8 → List (List UInt8)
  | 0, l => [l]
  | k + 1, l => if (32 : UInt8) ∈ l then l.takeWhile (· ≠ 32) :: splitW k ((l.dropWhile (· ≠ 32)).drop 1) else [l]
theorem at_space {l : List UInt8} (h : (32 : UInt8) ∈ l) : l = l.takeWhile (· ≠ 32) ++ 32 :: (l.dropWhile (· ≠ 32)).drop 1 ∧ (32 : UInt8) ∉ l.takeWhile (· ≠ 32) := by
  induction l with
  | nil => simp at h
  | cons c t ih =>
    by_cases hc : c = 32
    · subst hc
      simp
    · have ht : (32 : UInt8) ∈ t := by
        rcases List.mem_cons.1 h with e | e
        · exact absurd e.symm hc
        · exact e
      obtain ⟨i1, i2⟩ := ih ht
      rw [List.takeWhile_cons, List.dropWhile_cons, if_pos (by simpa using hc), if_pos (by simpa using hc)]
      exact ⟨by rw [List.cons_append, ← i1], fun hh => (List.mem_cons.1 hh).elim (fun e => hc e.symm) i2⟩
theorem splitW_words : ∀ (k : Nat) (l : List UInt8), splitW k l = wordsL l ∨ ((splitW k l).length = k + 1 ∧ k + 1 < (wordsL l).length)
  | 0, l => by
    rw [splitW]
    by_cases h : (32 : UInt8) ∈ l
    · right
      obtain ⟨e, hn⟩ := at_space h
      have hw : wordsL l = l.takeWhile (· ≠ 32) :: wordsL ((l.dropWhile (· ≠ 32)).drop 1) := by
        conv => lhs; rw [e]
        exact words_app _ _ hn
      rw [hw]
      have h1 : 0 < (wordsL ((l.dropWhile (· ≠ 32)).drop 1)).length := List.length_pos_iff.2 (words_ne _)
      exact ⟨rfl, by rw [List.length_cons]; omega⟩
    · left; exact (words_one l h).symm
  | k + 1, l => by
    rw [splitW]
    by_cases h : (32 : UInt8) ∈ l
    · rw [if_pos h]
      obtain ⟨e, hn⟩ := at_space h
      have hw : wordsL l = l.takeWhile (· ≠ 32) :: wordsL ((l.dropWhile (· ≠ 32)).drop 1) := by
        conv => lhs; rw [e]
        exact words_app _ _ hn
      rcases splitW_words k ((l.dropWhile (· ≠ 32)).drop 1) with ih | ⟨i1, i2⟩
      · left; rw [hw, ih]
      · right; rw [hw]; simp only [List.length_cons]; omega
    · rw [if_neg h]
      left; exact (words_one l h).symm

/-! ### What is read -/
/-- The reference's number. -/
def tR : Nat → List UInt8 → Nat
  | n, [] => n
  | n, c :: t => if c.toNat < 48 ∨ 57 < c.toNat ∨ 461168601842738790 < n then 0 else tR (10 * n + c.toNat - 48) t
theorem tR_dig (a : Nat) : ∀ (t : List UInt8), a ≤ 4611686018427387909 → tR 0 (Lib.decDigits a ++ t) = tR a t := by
  induction a using Nat.strongRecOn with
  | _ a ih =>
    intro t ha
    by_cases h : a < 10
    · rw [dig_small h, List.singleton_append, tR, dig_nat h, if_neg (by omega)]
      congr 1
      omega
    · rw [dig_big h, List.append_assoc, ih (a / 10) (by omega) _ (by omega), List.singleton_append, tR, dig_nat (Nat.mod_lt _ (by omega)), if_neg (by omega)]
      congr 1
      omega
theorem tR_txt {a : Nat} (h : a ≤ 4611686018427387904) : tR 0 (Lib.decDigits a) = a := by
  have := tR_dig a [] (by omega)
  rw [List.append_nil] at this
  rw [this, tR]
/-- The text of one node is no other one's. -/
theorem dig_inj {a b : Nat} (ha : a ≤ 4611686018427387904) (hb : b ≤ 4611686018427387904) (h : Lib.decDigits a = Lib.decDigits b) : a = b := by
  have := tR_txt ha
  rw [h, tR_txt hb] at this
  exact this.symm
theorem vld_nat {r : Int} (h : R.vld r = true) : ∃ n : Nat, r = (n : Int) ∧ R.vld (n : Int) = true ∧ n ≤ 1114111 ∧ 0 < n := by
  have k := R.vld_iff.1 h
  exact ⟨r.toNat, by omega, by rw [Int.toNat_of_nonneg (by omega)]; exact h, by omega, by omega⟩
theorem nm_inj {a b : Nat} (ha : a ≤ 1114111) (hb : b ≤ 1114111) (h : R.nm a = R.nm b) : a = b := by
  have h1 := (R.nm_pU a ha).2
  rw [h, (R.nm_pU b hb).2] at h1
  exact (Option.some.inj h1).symm
theorem nm_ne_dash {a : Nat} (h : a ≤ 1114111) : R.nm a ≠ [45] := by
  intro e
  have := (R.nm_len a h).1
  rw [e] at this
  simp at this
theorem rune_inj {r s : Int} (hr : r = 0 ∨ R.vld r = true) (hs : s = 0 ∨ R.vld s = true) (h : runeT r = runeT s) : r = s := by
  unfold runeT at h
  rcases hr with rfl | hr
  · rcases hs with rfl | hs
    · rfl
    · obtain ⟨n, rfl, -, hn, h0⟩ := vld_nat hs
      rw [if_pos rfl, if_neg (by omega), Int.toNat_natCast] at h
      exact absurd h.symm (nm_ne_dash hn)
  · obtain ⟨m, rfl, -, hm, hm0⟩ := vld_nat hr
    rw [if_neg (by omega), Int.toNat_natCast] at h
    rcases hs with rfl | hs
    · rw [if_pos rfl] at h
      exact absurd h (nm_ne_dash hm)
    · obtain ⟨n, rfl, -, hn, h0⟩ := vld_nat hs
      rw [if_neg (by omega), Int.toNat_natCast] at h
      rw [nm_inj hm hn h]
theorem txtN_inj {m n : Nt} (hm : VN m) (hn : VN n) (h : txtN m = txtN n) : m = n := by
  have e := words_txt m
  rw [h, words_txt n] at e
  simp only [List.cons.injEq, and_true] at e
  obtain ⟨e1, e2, e3, e4⟩ := e
  obtain ⟨m1, m2, m3, m4, m5, m6⟩ := hm
  obtain ⟨n1, n2, n3, n4, n5, n6⟩ := hn
  refine node_ext (txt_inj (.inl m1) (.inl n1) e1.symm) (txt_inj m2 n2 e2.symm) ?_ (rune_inj m6 n6 e4.symm)
  have := dig_inj (by omega) (by omega) e3
  omega
end Go.Proofs.YtgopkffgljiblaaGreat.Nd
end

/-
  Stores, plainly: lists of nodes whose dots increase; what stands at a dot; one more node; the store of some nodes.
-/
section
namespace Go.Proofs.YtgopkffgljiblaaGreat.Qs
set_option linter.unusedVariables false
open D Nd

def SrtN (l : List Nt) : Prop := l.Pairwise fun a b => less a.1 b.1 = true
def validS (l : List Nt) : Bool := l.all validN && isSetR (l.map (·.1))
theorem srt_map {l : List Nt} : Srt (l.map (·.1)) ↔ SrtN l := List.pairwise_map
theorem validS_iff {l : List Nt} : validS l = true ↔ (∀ x ∈ l, validN x = true) ∧ SrtN l := by
  unfold validS
  rw [Bool.and_eq_true, List.all_eq_true, isSet_iff, srt_map]
theorem validS_at {l : List Nt} (h1 : ∀ i (hi : i < l.length), validN l[i] = true) (h2 : ∀ i (hi : i + 1 < l.length), less l[i].1 l[i + 1].1 = true) : validS l = true := by
  unfold validS
  rw [Bool.and_eq_true, List.all_eq_true]
  refine ⟨fun x hx => ?_, isSet_at _ fun i hi => ?_⟩
  · obtain ⟨i, hi, rfl⟩ := List.mem_iff_getElem.1 hx
    exact h1 i hi
  · simp only [List.getElem_map]
    exact h2 i (by simpa using hi)
theorem validS_no1 {l : List Nt} (i : Nat) (hi : i < l.length) (h : validN l[i] = false) : validS l = false := by
  rw [← Bool.not_eq_true, validS_iff]
  intro k
  rw [k.1 _ (List.getElem_mem hi)] at h
  cases h
theorem validS_no2 {l : List Nt} (i : Nat) (hi : i + 1 < l.length) (h : less l[i].1 l[i + 1].1 = false) : validS l = false := by
  rw [← Bool.not_eq_true, validS_iff]
  intro k
  rw [List.pairwise_iff_getElem.1 k.2 i (i + 1) (by omega) hi (by omega)] at h
  cases h
/-! ### What stands at a dot -/
def atS (l : List Nt) (d : Dt) : Option Nt := l.find? fun n => decide (n.1 = d)
theorem at_some {l : List Nt} {d : Dt} {n : Nt} (h : atS l d = some n) : n ∈ l ∧ n.1 = d := ⟨List.mem_of_find?_eq_some h, by simpa using List.find?_some h⟩
theorem at_none {l : List Nt} {d : Dt} : atS l d = none ↔ ∀ n ∈ l, n.1 ≠ d := by unfold atS; rw [List.find?_eq_none]; simp
theorem at_mem {l : List Nt} (hs : SrtN l) {n : Nt} (hn : n ∈ l) : atS l n.1 = some n := by
  rcases h : atS l n.1 with _ | m
  · exact absurd rfl (at_none.1 h n hn)
  · obtain ⟨h1, h2⟩ := at_some h
    obtain ⟨i, hi, rfl⟩ := List.mem_iff_getElem.1 hn
    obtain ⟨j, hj, rfl⟩ := List.mem_iff_getElem.1 h1
    rcases Nat.lt_trichotomy i j with k | rfl | k
    · have := List.pairwise_iff_getElem.1 hs i j hi hj k
      exact absurd h2 (less_ne this).symm
    · rfl
    · have := List.pairwise_iff_getElem.1 hs j i hj hi k
      exact absurd h2 (less_ne this)
theorem at_iff {l : List Nt} (hs : SrtN l) {n : Nt} : n ∈ l ↔ atS l n.1 = some n := ⟨at_mem hs, fun h => (at_some h).1⟩
theorem srt_ext2 : ∀ {l m : List Nt}, SrtN l → SrtN m → (∀ x, x ∈ l ↔ x ∈ m) → l = m
  | [], [], _, _, _ => rfl
  | [], b :: m, _, _, h => absurd ((h b).2 (by simp)) (by simp)
  | a :: l, [], _, _, h => absurd ((h a).1 (by simp)) (by simp)
  | a :: l, b :: m, hl, hm, h => by
    unfold SrtN at hl hm
    rw [List.pairwise_cons] at hl hm
    have hab : a = b := by
      rcases List.mem_cons.1 ((h a).1 (by simp)) with e | e
      · exact e
      · rcases List.mem_cons.1 ((h b).2 (by simp)) with e2 | e2
        · exact e2.symm
        · have h1 := hm.1 a e
          have h2 := hl.1 b e2
          rw [less_asymm h1] at h2
          cases h2
    subst hab
    congr 1
    refine srt_ext2 hl.2 hm.2 fun x => ?_
    have h1 : x ∈ l → x ≠ a := fun hx e => by subst e; exact absurd rfl (less_ne (hl.1 x hx))
    have h2 : x ∈ m → x ≠ a := fun hx e => by subst e; exact absurd rfl (less_ne (hm.1 x hx))
    constructor
    · intro hx
      exact (List.mem_cons.1 ((h x).1 (List.mem_cons_of_mem _ hx))).resolve_left (h1 hx)
    · intro hx
      exact (List.mem_cons.1 ((h x).2 (List.mem_cons_of_mem _ hx))).resolve_left (h2 hx)
/-- Two stores with the same at each dot are one. -/
theorem at_ext {l m : List Nt} (hl : SrtN l) (hm : SrtN m) (h : ∀ d, atS l d = atS m d) : l = m := srt_ext2 hl hm fun x => by rw [at_iff hl, at_iff hm, h]
/-! ### One more node -/
def posS (l : List Nt) (d : Dt) : Nat := pos (l.map (·.1)) d
theorem posS_le (l : List Nt) (d : Dt) : posS l d ≤ l.length := by have := pos_le (l.map (·.1)) d; rw [List.length_map] at this; exact this
theorem posS_lt {l : List Nt} {d : Dt} {i : Nat} (hi : i < l.length) (h : i < posS l d) : less l[i].1 d = true := by
  have := pos_lt (s := l.map fun n : Nt => n.1) (d := d) (i := i) (by simpa using hi) h
  simpa using this
theorem posS_ge {l : List Nt} (hs : SrtN l) {d : Dt} {i : Nat} (hi : i < l.length) (h : posS l d ≤ i) : less l[i].1 d = false := by
  have h0 : posS l d < (l.map (·.1)).length := by rw [List.length_map]; omega
  have h1 : less (l[posS l d]'(by rw [List.length_map] at h0; exact h0)).1 d = false := by
    have h1 : less ((l.map fun n : Nt => n.1)[posS l d]'h0) d = false := pos_at (s := l.map fun n : Nt => n.1) (d := d) h0
    rw [List.getElem_map] at h1
    exact h1
  rcases Nat.lt_or_eq_of_le h with h2 | h2
  · have h3 := List.pairwise_iff_getElem.1 hs (posS l d) i (by omega) hi h2
    rw [← Bool.not_eq_true]
    intro h4
    have := less_trans h3 h4
    rw [h1] at this
    cases this
  · subst h2
    exact h1
/-- A store with another node at a dot, whatever it is. -/
def setS (l : List Nt) (n : Nt) : List Nt := l.take (posS l n.1) ++ n :: (l.drop (posS l n.1)).filter fun x => !decide (x.1 = n.1)
theorem mem_setS {l : List Nt} (hs : SrtN l) {n x : Nt} : x ∈ setS l n ↔ x = n ∨ (x ∈ l ∧ x.1 ≠ n.1) := by
  unfold setS
  rw [List.mem_append, List.mem_cons, List.mem_filter]
  constructor
  · rintro (h | h | ⟨h1, h2⟩)
    · obtain ⟨i, hi, rfl⟩ := List.mem_iff_getElem.1 h
      rw [List.length_take] at hi
      rw [List.getElem_take]
      exact .inr ⟨List.getElem_mem _, less_ne (posS_lt (by omega) (by omega))⟩
    · exact .inl h
    · exact .inr ⟨List.mem_of_mem_drop h1, by simpa using h2⟩
  · rintro (h | ⟨h1, h2⟩)
    · exact .inr (.inl h)
    · rw [← List.take_append_drop (posS l n.1) l] at h1
      rcases List.mem_append.1 h1 with h | h
      · exact .inl h
      · exact .inr (.inr ⟨h, by simpa using h2⟩)
theorem srt_setS {l : List Nt} (hs : SrtN l) (n : Nt) : SrtN (setS l n) := by
  unfold setS SrtN
  rw [List.pairwise_append]
  refine ⟨List.Pairwise.sublist (List.take_sublist _ _) hs, ?_, ?_⟩
  · rw [List.pairwise_cons]
    refine ⟨fun x hx => ?_, List.Pairwise.sublist List.filter_sublist (List.Pairwise.sublist (List.drop_sublist _ _) hs)⟩
    obtain ⟨h1, h2⟩ := List.mem_filter.1 hx
    obtain ⟨i, hi, rfl⟩ := List.mem_iff_getElem.1 h1
    rw [List.length_drop] at hi
    rw [List.getElem_drop] at h2 ⊢
    have h3 := posS_ge hs (d := n.1) (i := posS l n.1 + i) (by omega) (by omega)
    rcases h4 : less n.1 l[posS l n.1 + i].1 with _ | _
    · exact absurd (less_tri h3 h4) (by simpa using h2)
    · rfl
  · intro a ha b hb
    obtain ⟨i, hi, rfl⟩ := List.mem_iff_getElem.1 ha
    rw [List.length_take] at hi
    rw [List.getElem_take]
    have h1 : less l[i].1 n.1 = true := posS_lt (by omega) (by omega)
    rcases List.mem_cons.1 hb with rfl | hb
    · exact h1
    · obtain ⟨j, hj, rfl⟩ := List.mem_iff_getElem.1 (List.mem_filter.1 hb).1
      rw [List.length_drop] at hj
      rw [List.getElem_drop]
      exact List.pairwise_iff_getElem.1 hs i (posS l n.1 + j) (by omega) (by omega) (by omega)
theorem at_setS {l : List Nt} (hs : SrtN l) (n : Nt) (d : Dt) : atS (setS l n) d = if d = n.1 then some n else atS l d := by
  have h2 := srt_setS hs n
  split
  · rename_i h
    subst h
    exact at_mem h2 ((mem_setS hs).2 (.inl rfl))
  · rename_i h
    rcases hx : atS l d with _ | x
    · rw [at_none]
      intro y hy e
      rcases (mem_setS hs).1 hy with rfl | ⟨hy, -⟩
      · exact h e.symm
      · exact at_none.1 hx y hy e
    · obtain ⟨h3, rfl⟩ := at_some hx
      exact at_mem h2 ((mem_setS hs).2 (.inr ⟨h3, h⟩))
/-- One more node, or an error. -/
def putN (l : List Nt) (n : Nt) : List Nt × Int :=
  match atS l n.1 with
  | none => (setS l n, 0)
  | some r => if (mergeN r n).2 = 0 then (setS l (mergeN r n).1, 0) else ([], (mergeN r n).2)
theorem merge_dot {a b : Nt} (h : (mergeN a b).2 = 0) : (mergeN a b).1.1 = a.1 ∧ a.1 = b.1 := by
  obtain ⟨h1, h2, h3, h4⟩ := merge_yes h
  obtain ⟨k1, -⟩ := agree_iff.1 h3
  rw [h4]
  split
  · exact ⟨k1.symm, k1⟩
  · exact ⟨rfl, k1⟩
/-- What Put lays at the node's dot. -/
def upN (l : List Nt) (n : Nt) : Nt := match atS l n.1 with | none => n | some r => (mergeN r n).1
theorem put_yes {l : List Nt} {n : Nt} (h : (putN l n).2 = 0) : (putN l n).1 = setS l (upN l n) ∧ (upN l n).1 = n.1 := by
  unfold putN upN at *
  rcases hr : atS l n.1 with _ | r
  · exact ⟨rfl, rfl⟩
  · simp only [hr] at h ⊢
    by_cases hm : (mergeN r n).2 = 0
    · simp only [hm, if_true]
      exact ⟨by first | trivial | rfl, (merge_dot hm).1.trans (merge_dot hm).2⟩
    · simp only [hm, if_false] at h
theorem put_no {l : List Nt} {n : Nt} (h : (putN l n).2 ≠ 0) : (putN l n).1 = [] := by
  unfold putN at *
  rcases hr : atS l n.1 with _ | r
  · simp only [hr] at h; exact absurd rfl h
  · simp only [hr] at h ⊢
    by_cases hm : (mergeN r n).2 = 0
    · simp only [hm, if_true] at h; exact absurd rfl h
    · simp only [hm, if_false]
theorem put_at {l : List Nt} (hs : SrtN l) {n : Nt} (h : (putN l n).2 = 0) (d : Dt) : atS (putN l n).1 d = if d = n.1 then some (upN l n) else atS l d := by
  obtain ⟨h1, h2⟩ := put_yes h
  rw [h1, at_setS hs, h2]
theorem put_valid {l : List Nt} (hl : validS l = true) {n : Nt} (hn : validN n = true) (h : (putN l n).2 = 0) : validS (putN l n).1 = true := by
  obtain ⟨h1, h2⟩ := put_yes h
  obtain ⟨h3, h4⟩ := validS_iff.1 hl
  rw [h1, validS_iff]
  refine ⟨fun x hx => ?_, srt_setS h4 _⟩
  rcases (mem_setS h4).1 hx with rfl | ⟨hx, -⟩
  · unfold upN putN at *
    rcases hr : atS l n.1 with _ | r
    · exact hn
    · simp only [hr] at h ⊢
      by_cases hm : (mergeN r n).2 = 0
      · exact (merge_dead hm).2
      · simp only [hm, if_false] at h
  · exact h3 x hx
end Go.Proofs.YtgopkffgljiblaaGreat.Qs
end

/-
  Stores, plainly: the store of some nodes; the order of the nodes does not matter.
-/
section
namespace Go.Proofs.YtgopkffgljiblaaGreat.Qs
set_option linter.unusedVariables false
open D Nd

/-! ### What Put lays, written out -/
theorem setS_new {l : List Nt} {n : Nt} (h : atS l n.1 = none) : setS l n = l.take (posS l n.1) ++ n :: l.drop (posS l n.1) := by
  unfold setS
  rw [List.filter_eq_self.2 fun x hx => by simpa using at_none.1 h x (List.mem_of_mem_drop hx)]
theorem setS_old {l : List Nt} (hs : SrtN l) {n r : Nt} (h : atS l n.1 = some r) : ∃ hp : posS l n.1 < l.length, l[posS l n.1] = r ∧ setS l n = l.take (posS l n.1) ++ n :: l.drop (posS l n.1 + 1) := by
  obtain ⟨h1, h2⟩ := at_some h
  obtain ⟨i, hi, rfl⟩ := List.mem_iff_getElem.1 h1
  have e : posS l n.1 = i := by
    rcases Nat.lt_trichotomy (posS l n.1) i with k | k | k
    · have h3 := List.pairwise_iff_getElem.1 hs (posS l n.1) i (by omega) hi k
      have h4 := posS_ge hs (d := n.1) (i := posS l n.1) (by omega) (Nat.le_refl _)
      rw [h2] at h3
      rw [h3] at h4
      cases h4
    · exact k
    · have h3 := posS_lt hi k
      rw [h2, less_irr] at h3
      cases h3
  refine ⟨by omega, by simp only [e], ?_⟩
  unfold setS
  rw [e, List.drop_eq_getElem_cons hi, List.filter_cons, if_neg (by simp [h2])]
  rw [List.filter_eq_self.2 fun x hx => ?_]
  obtain ⟨j, hj, rfl⟩ := List.mem_iff_getElem.1 hx
  rw [List.length_drop] at hj
  rw [List.getElem_drop]
  have h3 := List.pairwise_iff_getElem.1 hs i (i + 1 + j) hi (by omega) (by omega)
  rw [h2] at h3
  simpa using (less_ne h3).symm
theorem setS_len {l : List Nt} (hs : SrtN l) (n : Nt) : (setS l n).length = if (atS l n.1).isSome then l.length else l.length + 1 := by
  have hp := posS_le l n.1
  rcases h : atS l n.1 with _ | r
  · rw [setS_new h, List.length_append, List.length_cons, List.length_take, List.length_drop]
    simp only [Option.isSome_none, Bool.false_eq_true, if_false]
    omega
  · obtain ⟨h1, -, h2⟩ := setS_old hs h
    rw [h2, List.length_append, List.length_cons, List.length_take, List.length_drop]
    simp only [Option.isSome_some, if_true]
    omega
theorem put_len {l : List Nt} (hs : SrtN l) {n : Nt} (h : (putN l n).2 = 0) : (putN l n).1.length = if (atS l n.1).isSome then l.length else l.length + 1 := by
  obtain ⟨h1, h2⟩ := put_yes h
  rw [h1, setS_len hs, h2]
/-- Put again changes nothing. -/
theorem put_again {l : List Nt} (hs : SrtN l) {n : Nt} (hv : validS l = true) (hn : validN n = true) (h : (putN l n).2 = 0) : putN (putN l n).1 n = ((putN l n).1, 0) := by
  have hs2 := (validS_iff.1 (put_valid hv hn h)).2
  have ha := put_at hs h n.1
  rw [if_pos rfl] at ha
  have hm : mergeN (upN l n) n = (upN l n, 0) := by
    have hu : validN (upN l n) = true := (validS_iff.1 (put_valid hv hn h)).1 _ (at_some ha).1
    unfold upN at hu ⊢
    rcases hr : atS l n.1 with _ | r
    · exact merge_self hn
    · simp only [hr] at hu ⊢
      have hm0 : (mergeN r n).2 = 0 := by
        unfold putN at h
        simp only [hr] at h
        by_cases hm : (mergeN r n).2 = 0
        · exact hm
        · simp only [hm, if_false] at h
      obtain ⟨v1, v2, ag, e⟩ := merge_yes hm0
      rw [e] at hu ⊢
      have ag2 : agreeN (if n.2.2.2 = 0 then n else r) n = true := by
        split
        · exact agree_self n
        · exact ag
      unfold mergeN
      rw [hu, hn, ag2, Bool.and_self, if_pos rfl, if_pos rfl]
      split <;> rfl
  have hp : (putN (putN l n).1 n).2 = 0 ∧ upN (putN l n).1 n = upN l n := by
    unfold putN upN at *
    constructor
    · simp only [ha, hm, if_true]
    · simp only [ha, hm]
  have e : (putN (putN l n).1 n).1 = (putN l n).1 := by
    refine at_ext ?_ hs2 fun d => ?_
    · obtain ⟨h1, -⟩ := put_yes hp.1
      rw [h1]
      exact srt_setS hs2 _
    · rw [put_at hs2 hp.1, hp.2]
      split
      · rename_i hd
        rw [hd, ha]
      · rfl
  exact Prod.ext e hp.1

/-! ### The store of some nodes -/
def agAll (l : List Nt) : Prop := ∀ a ∈ l, ∀ b ∈ l, a.1 = b.1 → agreeN a b = true
def agB : List Nt → Bool
  | [] => true
  | a :: t => (t.all fun b => !decide (a.1 = b.1) || agreeN a b) && agB t
theorem agB_iff : ∀ {l : List Nt}, agB l = true ↔ agAll l
  | [] => by simp [agB, agAll]
  | a :: t => by
    rw [agB, Bool.and_eq_true, agB_iff (l := t), List.all_eq_true]
    constructor
    · rintro ⟨h1, h2⟩ x hx y hy e
      rcases List.mem_cons.1 hx with rfl | hx <;> rcases List.mem_cons.1 hy with rfl | hy
      · exact agree_self _
      · have := h1 y hy
        simpa [e] using this
      · have h5 : x ∈ t := by assumption
        have := h1 x h5
        rw [agree_comm]
        simpa [e] using this
      · exact h2 x hx y hy e
    · intro h
      refine ⟨fun b hb => ?_, fun x hx y hy e => h x (by simp [hx]) y (by simp [hy]) e⟩
      by_cases e : a.1 = b.1
      · simp [e, h a (by simp) b (by simp [hb]) e]
      · simp [e]
def deadAt (l : List Nt) (d : Dt) : Bool := l.any fun n => decide (n.1 = d) && deadN n
theorem deadAt_iff {l : List Nt} {d : Dt} : deadAt l d = true ↔ ∃ n ∈ l, n.1 = d ∧ deadN n = true := by unfold deadAt; simp
/-- What all nodes with a dot are merged to. -/
def mg (l : List Nt) (d : Dt) : Option Nt := (atS l d).map fun a => if deadAt l d = true then killN a else a
def foldN (l : List Nt) (o : List Nt) : List Nt := l.foldl (fun o n => (putN o n).1) o
def ofN (l : List Nt) : List Nt × Int := if l.all validN = true then (if agB l = true then (foldN l [], 0) else ([], 15)) else ([], 2)
theorem kill_eq {a b : Nt} (h : agreeN a b = true) : killN a = killN b := by
  obtain ⟨h1, h2, h3, -⟩ := agree_iff.1 h
  exact node_ext h1 h2 h3 rfl
theorem kill_dead {a : Nt} (h : deadN a = true) : killN a = a := node_ext rfl rfl rfl (by unfold deadN at h; exact (of_decide_eq_true h).symm)
theorem agree_kill {a b : Nt} (h : agreeN a b = true) : agreeN (killN a) b = true := by
  obtain ⟨h1, h2, h3, -⟩ := agree_iff.1 h
  exact agree_iff.2 ⟨h1, h2, h3, .inr (.inl rfl)⟩
theorem at_app (l : List Nt) (n : Nt) (d : Dt) : atS (l ++ [n]) d = (atS l d).or (if n.1 = d then some n else none) := by
  unfold atS
  rw [List.find?_append]
  congr 1
  by_cases h : n.1 = d <;> simp [h]
theorem dead_app (l : List Nt) (n : Nt) (d : Dt) : deadAt (l ++ [n]) d = (deadAt l d || (decide (n.1 = d) && deadN n)) := by
  unfold deadAt
  rw [List.any_append]
  simp
theorem step_ok {o pre : List Nt} {n : Nt} (hv : validS o = true) (ha : ∀ d, atS o d = mg pre d) (hn : validN n = true) (hg : agAll (pre ++ [n])) : (putN o n).2 = 0 ∧ validS (putN o n).1 = true ∧ ∀ d, atS (putN o n).1 d = mg (pre ++ [n]) d := by
  have hs := (validS_iff.1 hv).2
  have other : ∀ d, d ≠ n.1 → mg (pre ++ [n]) d = mg pre d := fun d hd => by
    unfold mg
    rw [at_app, dead_app, if_neg (fun e => hd e.symm), decide_eq_false (fun e => hd e.symm), Bool.false_and, Bool.or_false, Option.or_none]
  have main : (putN o n).2 = 0 ∧ some (upN o n) = mg (pre ++ [n]) n.1 := by
    have h0 := ha n.1
    unfold mg at h0
    rcases hp : atS pre n.1 with _ | a
    · rw [hp] at h0
      simp only [Option.map_none] at h0
      unfold putN upN mg
      rw [h0, at_app, hp, dead_app]
      have hd : deadAt pre n.1 = false := by
        rw [← Bool.not_eq_true, deadAt_iff]
        rintro ⟨x, hx, e, -⟩
        exact at_none.1 hp x hx e
      rw [hd]
      refine ⟨rfl, ?_⟩
      simp only [if_true, Option.none_or, Option.map_some, decide_true, Bool.true_and, Bool.false_or]
      split
      · rename_i h; rw [kill_dead h]
      · rfl
    · rw [hp] at h0
      simp only [Option.map_some] at h0
      obtain ⟨p1, p2⟩ := at_some hp
      have ag : agreeN a n = true := hg a (by simp [p1]) n (by simp) p2
      obtain ⟨r, hr⟩ : ∃ r, r = if deadAt pre n.1 = true then killN a else a := ⟨_, rfl⟩
      rw [← hr] at h0
      have agr : agreeN r n = true := by rw [hr]; split; exact agree_kill ag; exact ag
      have vr : validN r = true := (validS_iff.1 hv).1 _ (at_some h0).1
      have hm : mergeN r n = (if n.2.2.2 = 0 then n else r, 0) := by
        unfold mergeN
        rw [vr, hn, agr, Bool.and_self, if_pos rfl, if_pos rfl]
      unfold putN upN mg
      rw [h0, at_app, hp, dead_app]
      simp only [hm, if_true, Option.some_or, Option.map_some, decide_true, Bool.true_and, true_and]
      by_cases hz : n.2.2.2 = 0
      · have hdn : deadN n = true := by unfold deadN; simpa using hz
        rw [if_pos hz, hdn, Bool.or_true, if_pos rfl, kill_eq ag, kill_dead hdn]
      · have hdn : deadN n = false := by unfold deadN; simpa using hz
        rw [if_neg hz, hdn, Bool.or_false, hr]
  refine ⟨main.1, put_valid hv hn main.1, fun d => ?_⟩
  rw [put_at hs main.1]
  split
  · rename_i hd
    rw [hd]
    exact main.2
  · rename_i hd
    rw [ha, other d hd]
theorem fold_ok : ∀ (t pre o : List Nt), validS o = true → (∀ d, atS o d = mg pre d) → (∀ x ∈ t, validN x = true) → agAll (pre ++ t) → validS (foldN t o) = true ∧ ∀ d, atS (foldN t o) d = mg (pre ++ t) d
  | [], pre, o, h1, h2, _, _ => by rw [List.append_nil]; exact ⟨h1, h2⟩
  | n :: t, pre, o, h1, h2, h3, h4 => by
    have hg : agAll (pre ++ [n]) := fun a ha b hb e => h4 a (by simp at ha ⊢; rcases ha with h | h <;> simp [h]) b (by simp at hb ⊢; rcases hb with h | h <;> simp [h]) e
    obtain ⟨-, k2, k3⟩ := step_ok h1 h2 (h3 n (by simp)) hg
    have := fold_ok t (pre ++ [n]) (putN o n).1 k2 k3 (fun x hx => h3 x (by simp [hx])) (by rw [List.append_assoc]; exact h4)
    rw [List.append_assoc] at this
    exact this
theorem of_ok {l : List Nt} (h1 : ∀ x ∈ l, validN x = true) (h2 : agAll l) : ofN l = (foldN l [], 0) ∧ validS (foldN l []) = true ∧ ∀ d, atS (foldN l []) d = mg l d := by
  have := fold_ok l [] [] rfl (fun d => rfl) h1 (by rw [List.nil_append]; exact h2)
  rw [List.nil_append] at this
  refine ⟨?_, this⟩
  unfold ofN
  rw [if_pos (List.all_eq_true.2 h1), if_pos (agB_iff.2 h2)]
theorem mg_same {l m : List Nt} (h : ∀ x, x ∈ l ↔ x ∈ m) (hg : agAll l) (d : Dt) : mg l d = mg m d := by
  have hd : deadAt l d = deadAt m d := by
    rw [Bool.eq_iff_iff, deadAt_iff, deadAt_iff]
    exact ⟨fun ⟨n, h1, h2⟩ => ⟨n, (h n).1 h1, h2⟩, fun ⟨n, h1, h2⟩ => ⟨n, (h n).2 h1, h2⟩⟩
  unfold mg
  rw [hd]
  rcases ha : atS l d with _ | a
  · rcases hb : atS m d with _ | b
    · rfl
    · obtain ⟨b1, b2⟩ := at_some hb
      exact absurd b2 (at_none.1 ha b ((h b).2 b1))
  · obtain ⟨a1, a2⟩ := at_some ha
    rcases hb : atS m d with _ | b
    · exact absurd a2 (at_none.1 hb a ((h a).1 a1))
    · obtain ⟨b1, b2⟩ := at_some hb
      have ag := hg a a1 b ((h b).2 b1) (a2.trans b2.symm)
      simp only [Option.map_some, Option.some.injEq]
      split
      · exact kill_eq ag
      · rename_i hn
        have h0 : ∀ x ∈ m, x.1 = d → x.2.2.2 ≠ 0 := fun x hx e hz => hn (deadAt_iff.2 ⟨x, hx, e, by unfold deadN; simpa using hz⟩)
        obtain ⟨e1, e2, e3, e4⟩ := agree_iff.1 ag
        exact node_ext e1 e2 e3 (e4.elim id fun h' => h'.elim (fun h' => absurd h' (h0 a ((h a).1 a1) a2)) fun h' => absurd h' (h0 b b1 b2))
/-- Neither the order of the nodes nor how often each is there matters. -/
theorem of_same {l m : List Nt} (h : ∀ x, x ∈ l ↔ x ∈ m) : ofN l = ofN m := by
  have hv : l.all validN = m.all validN := by
    rw [Bool.eq_iff_iff, List.all_eq_true, List.all_eq_true]
    exact ⟨fun k x hx => k x ((h x).2 hx), fun k x hx => k x ((h x).1 hx)⟩
  have hg : agB l = agB m := by
    rw [Bool.eq_iff_iff, agB_iff, agB_iff]
    exact ⟨fun k a ha b hb => k a ((h a).2 ha) b ((h b).2 hb), fun k a ha b hb => k a ((h a).1 ha) b ((h b).1 hb)⟩
  by_cases h1 : l.all validN = true
  · by_cases h2 : agB l = true
    · obtain ⟨a1, a2, a3⟩ := of_ok (List.all_eq_true.1 h1) (agB_iff.1 h2)
      obtain ⟨b1, b2, b3⟩ := of_ok (l := m) (List.all_eq_true.1 (hv ▸ h1)) (agB_iff.1 (hg ▸ h2))
      rw [a1, b1]
      refine Prod.ext (at_ext (validS_iff.1 a2).2 (validS_iff.1 b2).2 fun d => ?_) rfl
      rw [a3, b3, mg_same h (agB_iff.1 h2)]
    · unfold ofN
      rw [← hv, ← hg, if_pos h1, if_pos h1, if_neg h2, if_neg h2]
  · unfold ofN
    rw [← hv, if_neg h1, if_neg h1]
theorem of_valid {l : List Nt} (h : (ofN l).2 = 0) : (∀ x ∈ l, validN x = true) ∧ agAll l ∧ validS (ofN l).1 = true := by
  unfold ofN at h ⊢
  split at h
  · rename_i h1
    split at h
    · rename_i h2
      rw [if_pos h1, if_pos h2]
      exact ⟨List.all_eq_true.1 h1, agB_iff.1 h2, (of_ok (List.all_eq_true.1 h1) (agB_iff.1 h2)).2.1⟩
    · cases h
  · cases h
theorem of_no {l : List Nt} (h : (ofN l).2 ≠ 0) : (ofN l).1 = [] := by
  unfold ofN at h ⊢
  split
  · split
    · rename_i h1 h2
      rw [if_pos h1, if_pos h2] at h
      exact absurd rfl h
    · rfl
  · rfl
theorem srt_one {l : List Nt} (hs : SrtN l) {a b : Nt} (ha : a ∈ l) (hb : b ∈ l) (e : a.1 = b.1) : a = b := by
  have h1 := at_mem hs ha
  have h2 := at_mem hs hb
  rw [e, h2] at h1
  exact (Option.some.inj h1).symm
/-- The store of a store is the store. -/
theorem of_self {l : List Nt} (h : validS l = true) : ofN l = (l, 0) := by
  obtain ⟨h1, h2⟩ := validS_iff.1 h
  have hg : agAll l := fun a ha b hb e => by rw [srt_one h2 ha hb e]; exact agree_self b
  obtain ⟨a1, a2, a3⟩ := of_ok h1 hg
  rw [a1]
  refine Prod.ext (at_ext (validS_iff.1 a2).2 h2 fun d => ?_) rfl
  rw [a3]
  unfold mg
  rcases ha : atS l d with _ | a
  · rfl
  · obtain ⟨k1, k2⟩ := at_some ha
    simp only [Option.map_some, Option.some.injEq]
    split
    · rename_i hd
      obtain ⟨x, hx, e, hz⟩ := deadAt_iff.1 hd
      rw [srt_one h2 k1 hx (k2.trans e.symm)]
      exact kill_dead hz
    · rfl
end Go.Proofs.YtgopkffgljiblaaGreat.Qs
end

/-
  Stores, plainly: nodes that are killed, the dots and contexts of a store, the greatest time, the parents that are lacking.
-/
section
namespace Go.Proofs.YtgopkffgljiblaaGreat.Qs
set_option linter.unusedVariables false
open D Nd

/-! ### Kill -/
def killAt (dots : List Dt) (n : Nt) : Nt := if n.1 ∈ dots then killN n else n
def killS (l : List Nt) (dots : List Dt) : List Nt × Int := if dots.all (fun d => (atS l d).isSome) = true then (l.map (killAt dots), 0) else ([], 9)
theorem killAt_dot (dots : List Dt) (n : Nt) : (killAt dots n).1 = n.1 := by unfold killAt; split <;> rfl
theorem valid_killN {n : Nt} (h : validN n = true) : validN (killN n) = true := by
  rw [valid_vn] at *
  obtain ⟨h1, h2, h3, h4, h5, h6⟩ := h
  exact ⟨h1, h2, h3, h4, h5, .inl rfl⟩
theorem kill_valid {l : List Nt} (h : validS l = true) (dots : List Dt) : validS (l.map (killAt dots)) = true := by
  obtain ⟨h1, h2⟩ := validS_iff.1 h
  rw [validS_iff]
  constructor
  · intro x hx
    obtain ⟨n, hn, rfl⟩ := List.mem_map.1 hx
    unfold killAt
    split
    · exact valid_killN (h1 n hn)
    · exact h1 n hn
  · unfold SrtN
    rw [List.pairwise_map]
    exact h2.imp fun {a b} k => by rw [killAt_dot, killAt_dot]; exact k
theorem kill_yes {l : List Nt} {dots : List Dt} (h : (killS l dots).2 = 0) : (∀ d ∈ dots, ∃ n ∈ l, n.1 = d) ∧ (killS l dots).1 = l.map (killAt dots) := by
  unfold killS at h ⊢
  split at h
  · rename_i hd
    rw [if_pos hd]
    refine ⟨fun d hd' => ?_, rfl⟩
    have := List.all_eq_true.1 hd d hd'
    rcases ha : atS l d with _ | n
    · rw [ha] at this; cases this
    · exact ⟨n, at_some ha⟩
  · cases h
theorem kill_no {l : List Nt} {dots : List Dt} (h : (killS l dots).2 ≠ 0) : killS l dots = ([], 9) := by
  unfold killS at h ⊢
  split
  · rename_i hd
    rw [if_pos hd] at h
    exact absurd rfl h
  · rfl
theorem kill_code {l : List Nt} {dots : List Dt} (d : Dt) (hd : d ∈ dots) (h : atS l d = none) : killS l dots = ([], 9) := by
  unfold killS
  rw [if_neg]
  intro k
  have := List.all_eq_true.1 k d hd
  rw [h] at this
  cases this
theorem kill_all {l : List Nt} {dots : List Dt} (h : ∀ d ∈ dots, atS l d ≠ none) : killS l dots = (l.map (killAt dots), 0) := by
  unfold killS
  rw [if_pos (List.all_eq_true.2 fun d hd => by
    rcases ha : atS l d with _ | n
    · exact absurd ha (h d hd)
    · rfl)]

/-! ### Dots, contexts -/
def dotsS (l : List Nt) (dead : Bool) : List Dt := (l.filter fun n => !dead || deadN n).map (·.1)
theorem mem_dots {l : List Nt} {dead : Bool} {d : Dt} : d ∈ dotsS l dead ↔ ∃ n ∈ l, (dead = false ∨ deadN n = true) ∧ n.1 = d := by
  unfold dotsS
  simp only [List.mem_map, List.mem_filter, Bool.or_eq_true, Bool.not_eq_true']
  constructor
  · rintro ⟨n, ⟨h1, h2⟩, h3⟩; exact ⟨n, h1, h2, h3⟩
  · rintro ⟨n, h1, h2, h3⟩; exact ⟨n, ⟨h1, h2⟩, h3⟩
theorem srt_dots {l : List Nt} (hs : SrtN l) (dead : Bool) : Srt (dotsS l dead) := by
  unfold dotsS Srt
  rw [List.pairwise_map]
  exact List.Pairwise.sublist List.filter_sublist hs
theorem dots_valid {l : List Nt} (h : validS l = true) (dead : Bool) : ∀ d ∈ dotsS l dead, validR d = true := fun d hd => by
  obtain ⟨n, hn, -, rfl⟩ := mem_dots.1 hd
  exact (valid_vn.1 ((validS_iff.1 h).1 n hn)).1
theorem dots_len (l : List Nt) (dead : Bool) : (dotsS l dead).length ≤ l.length := by
  unfold dotsS
  rw [List.length_map]
  exact List.length_filter_le _ _
def ctxS (l : List Nt) (dead : Bool) : F.Ct := F.addC ([], []) (dotsS l dead)
theorem vc_nil : F.Vc ([], []) := (F.valid_vc _).1 (by decide)
theorem ctx_has {l : List Nt} (h : validS l = true) (dead : Bool) (d : Dt) : F.hasC (ctxS l dead) d = true ↔ d ∈ dotsS l dead := by
  unfold ctxS
  rw [F.add_has vc_nil (dots_valid h dead)]
  constructor
  · rintro (k | k)
    · exfalso
      rw [F.hasC_iff] at k
      rcases k with ⟨k1, k2 | k2⟩
      · have := (F.hasV_iff.1 k2).2
        have h0 : E.getV [] d.1 = 0 := by first | rfl | simp [E.getV]
        rw [h0] at this
        unfold validR at k1
        simp at k1
        omega
      · cases k2
    · exact k
  · exact .inr
/-- What is killed is known as dead. -/
theorem kill_known {l : List Nt} (h : validS l = true) {dots : List Dt} (hk : (killS l dots).2 = 0) : ∀ d ∈ dots, F.hasC (ctxS (killS l dots).1 true) d = true := fun d hd => by
  obtain ⟨h1, h2⟩ := kill_yes hk
  obtain ⟨n, hn, rfl⟩ := h1 d hd
  rw [h2, ctx_has (kill_valid h dots), mem_dots]
  refine ⟨killAt dots n, List.mem_map.2 ⟨n, hn, rfl⟩, .inr ?_, killAt_dot dots n⟩
  unfold killAt
  rw [if_pos hd]
  rfl

/-! ### The greatest time -/
def timeS (l : List Nt) : Int := l.foldl (fun m n => if m < n.2.2.1 then n.2.2.1 else m) 0

/-! ### The parents that are lacking -/
def lacksS (l : List Nt) (n : Nt) : Bool := !rootR n.2.1 && (atS l n.2.1).isNone
def lackS (l : List Nt) : List Dt := l.foldl (fun o n => if lacksS l n = true then ins o n.2.1 else o) []
theorem lack_fold (q : Nt → Bool) : ∀ (t : List Nt) (o : List Dt), Srt o → Srt (t.foldl (fun o n => if q n = true then ins o n.2.1 else o) o) ∧ ∀ d, d ∈ t.foldl (fun o n => if q n = true then ins o n.2.1 else o) o ↔ d ∈ o ∨ ∃ n ∈ t, q n = true ∧ n.2.1 = d
  | [], o, h => ⟨h, fun d => by simp⟩
  | n :: t, o, h => by
    rw [List.foldl_cons]
    have h2 : Srt (if q n = true then ins o n.2.1 else o) := by split; exact srt_ins h _; exact h
    obtain ⟨k1, k2⟩ := lack_fold q t _ h2
    refine ⟨k1, fun d => ?_⟩
    rw [k2]
    constructor
    · rintro (h3 | ⟨x, hx, hy⟩)
      · split at h3
        · rename_i hq
          rcases mem_ins.1 h3 with h3 | h3
          · exact .inl h3
          · exact .inr ⟨n, by simp, hq, h3.symm⟩
        · exact .inl h3
      · exact .inr ⟨x, by simp [hx], hy⟩
    · rintro (h3 | ⟨x, hx, hq, e⟩)
      · left
        split
        · exact mem_ins.2 (.inl h3)
        · exact h3
      · rcases List.mem_cons.1 hx with rfl | hx
        · left
          rw [if_pos hq]
          exact mem_ins.2 (.inr e.symm)
        · exact .inr ⟨x, hx, hq, e⟩
theorem lack_srt (l : List Nt) : Srt (lackS l) := (lack_fold _ l [] srt_nil).1
theorem mem_lack {l : List Nt} {d : Dt} : d ∈ lackS l ↔ rootR d = false ∧ atS l d = none ∧ ∃ n ∈ l, n.2.1 = d := by
  unfold lackS
  rw [(lack_fold _ l [] srt_nil).2]
  constructor
  · rintro (h | ⟨n, hn, hq, rfl⟩)
    · cases h
    · unfold lacksS at hq
      rw [Bool.and_eq_true] at hq
      exact ⟨by simpa using hq.1, by simpa using hq.2, n, hn, rfl⟩
  · rintro ⟨h1, h2, n, hn, rfl⟩
    exact .inr ⟨n, hn, by unfold lacksS; rw [h1, h2]; rfl, rfl⟩
theorem lack_eq {l : List Nt} {m : List Dt} (hm : Srt m) (h : ∀ d, d ∈ m ↔ rootR d = false ∧ atS l d = none ∧ ∃ n ∈ l, n.2.1 = d) : m = lackS l := srt_ext hm (lack_srt l) fun x => by rw [h, mem_lack]
end Go.Proofs.YtgopkffgljiblaaGreat.Qs
end

/-
  Stores, plainly: what the laws ask; loops over lists.
-/
section
namespace Go.Proofs.YtgopkffgljiblaaGreat.Qs
set_option linter.unusedVariables false
open D Nd

/-! ### Loops -/
theorem foldl_take {α β : Type} (g : β → α → β) (o : β) (l : List α) (i : Nat) (hi : i < l.length) : (l.take (i + 1)).foldl g o = g ((l.take i).foldl g o) l[i] := by
  have e : l.take (i + 1) = l.take i ++ [l[i]] := by rw [List.take_add_one, List.getElem?_eq_getElem hi]; rfl
  rw [e, List.foldl_append]
  rfl
theorem posS_go {l : List Nt} {d : Dt} {i : Nat} (hi : i < l.length) (h : i ≤ posS l d) (hl : less l[i].1 d = true) : i + 1 ≤ posS l d :=
  pos_go (s := l.map fun n : Nt => n.1) (d := d) (i := i) (by simpa using hi) h (by simpa using hl)
theorem posS_stop {l : List Nt} {d : Dt} {i : Nat} (hi : i < l.length) (h : i ≤ posS l d) (hl : less l[i].1 d = false) : i = posS l d :=
  pos_stop (s := l.map fun n : Nt => n.1) (d := d) (i := i) (by simpa using hi) h (by simpa using hl)
theorem posS_end {l : List Nt} {d : Dt} {i : Nat} (hi : i = l.length) (h : i ≤ posS l d) : i = posS l d := by have := posS_le l d; omega
/-- The first index with a dot, by a loop. -/
def idxS (l : List Nt) (d : Dt) : Int := if (atS l d).isSome then ((l.takeWhile fun n => !decide (n.1 = d)).length : Int) else -1
theorem idx_hit {l : List Nt} {d : Dt} {i : Nat} (hi : i < l.length) (h : ∀ j (hj : j < l.length), j < i → l[j].1 ≠ d) (e : l[i].1 = d) : idxS l d = (i : Int) ∧ atS l d = some l[i] := by
  have hw : (l.takeWhile fun n => !decide (n.1 = d)).length = i ∧ atS l d = some l[i] := by
    induction l generalizing i with
    | nil => simp at hi
    | cons a t ih =>
      cases i with
      | zero =>
        simp only [List.getElem_cons_zero] at e ⊢
        refine ⟨by rw [List.takeWhile_cons, if_neg (by simp [e])]; rfl, ?_⟩
        unfold atS
        rw [List.find?_cons, decide_eq_true e]
      | succ i =>
        have h0 := h 0 (by simp) (by omega)
        simp only [List.getElem_cons_zero] at h0
        simp only [List.getElem_cons_succ] at e ⊢
        obtain ⟨k1, k2⟩ := ih (i := i) (by simpa using hi) (fun j hj hji => by have := h (j + 1) (by simpa using hj) (by omega); simpa using this) e
        refine ⟨by rw [List.takeWhile_cons, if_pos (by simp [h0]), List.length_cons, k1], ?_⟩
        unfold atS at k2 ⊢
        rw [List.find?_cons, decide_eq_false h0]
        exact k2
  unfold idxS
  rw [hw.2]
  exact ⟨by rw [hw.1]; rfl, rfl⟩
theorem idx_none {l : List Nt} {d : Dt} (h : ∀ j (hj : j < l.length), l[j].1 ≠ d) : idxS l d = -1 ∧ atS l d = none := by
  have : atS l d = none := at_none.2 fun n hn => by
    obtain ⟨j, hj, rfl⟩ := List.mem_iff_getElem.1 hn
    exact h j hj
  unfold idxS
  rw [this]
  exact ⟨rfl, rfl⟩
theorem idx_neg {l : List Nt} {d : Dt} : idxS l d < 0 ↔ atS l d = none := by
  unfold idxS
  rcases atS l d with _ | n
  · simp
  · simp only [Option.isSome_some, if_true]
    constructor
    · intro h; omega
    · intro h; cases h

/-! ### What the laws ask -/
theorem up_alive {l : List Nt} {n : Nt} (h : (putN l n).2 = 0) (ha : (upN l n).2.2.2 ≠ 0) : n.2.2.2 ≠ 0 ∧ ∀ r, atS l n.1 = some r → r.2.2.2 ≠ 0 := by
  unfold upN putN at *
  rcases hr : atS l n.1 with _ | r
  · rw [hr] at ha
    exact ⟨ha, fun _ h => by cases h⟩
  · simp only [hr] at h ha
    by_cases hm : (mergeN r n).2 = 0
    · rw [(merge_yes hm).2.2.2] at ha
      by_cases hz : n.2.2.2 = 0
      · rw [if_pos hz] at ha; exact absurd hz ha
      · rw [if_neg hz] at ha
        exact ⟨hz, fun _ h => by cases h; exact ha⟩
    · simp only [hm, if_false] at h
theorem up_at {l : List Nt} (hs : SrtN l) {n : Nt} (h : (putN l n).2 = 0) : atS (putN l n).1 n.1 = some (upN l n) := by rw [put_at hs h, if_pos rfl]
/-- The nodes turned, one of them twice, are the same nodes. -/
theorem back_mem {l : List Nt} {k : Nat} (hk : k < l.length) (x : Nt) : x ∈ (l[k] :: l.take k) ++ (l.drop k).reverse ↔ x ∈ l := by
  rw [List.mem_append, List.mem_cons, List.mem_reverse]
  constructor
  · rintro ((rfl | h) | h)
    · exact List.getElem_mem hk
    · exact List.mem_of_mem_take h
    · exact List.mem_of_mem_drop h
  · intro h
    rw [← List.take_append_drop k l] at h
    rcases List.mem_append.1 h with h | h
    · exact .inl (.inr h)
    · exact .inr h
/-- Nodes that are put one after the other: each goes, and the store is that of all so far. -/
theorem put_seq {l : List Nt} (h1 : ∀ x ∈ l, validN x = true) (h2 : agAll l) (i : Nat) (hi : i < l.length) :
    validS (foldN (l.take i) []) = true ∧ (putN (foldN (l.take i) []) l[i]).2 = 0 ∧ (putN (foldN (l.take i) []) l[i]).1 = foldN (l.take (i + 1)) [] := by
  have sub : ∀ j, (∀ x ∈ l.take j, validN x = true) ∧ agAll (l.take j) := fun j => ⟨fun x hx => h1 x (List.mem_of_mem_take hx), fun a ha b hb e => h2 a (List.mem_of_mem_take ha) b (List.mem_of_mem_take hb) e⟩
  obtain ⟨k1, k2, k3⟩ := of_ok (sub i).1 (sub i).2
  have e : l.take (i + 1) = l.take i ++ [l[i]] := by rw [List.take_add_one, List.getElem?_eq_getElem hi]; rfl
  have := step_ok k2 k3 (h1 _ (List.getElem_mem hi)) (by rw [← e]; exact (sub (i + 1)).2)
  refine ⟨k2, this.1, ?_⟩
  unfold foldN
  rw [foldl_take _ _ _ _ hi]
end Go.Proofs.YtgopkffgljiblaaGreat.Qs
end

/-
  Layer 14, plainly: states that agree, their join, the join of some states, states within each other.
-/
section
namespace Go.Proofs.YtgopkffgljiblaaGreat.Jn
set_option linter.unusedVariables false
open D Nd Qs

/-- Two states agree. -/
def agS (a b : List Nt) : Bool := a.all fun x => match atS b x.1 with | none => true | some y => agreeN x y
/-- The join of two states that agree. -/
def joinL (a b : List Nt) : List Nt := foldN b a

theorem at_app2 (a b : List Nt) (d : Dt) : atS (a ++ b) d = (atS a d).or (atS b d) := by
  unfold atS
  exact List.find?_append
theorem dead_app2 (a b : List Nt) (d : Dt) : deadAt (a ++ b) d = (deadAt a d || deadAt b d) := by
  unfold deadAt
  exact List.any_append
theorem dead_store {a : List Nt} (h : validS a = true) (d : Dt) : deadAt a d = match atS a d with | none => false | some x => deadN x := by
  have hs := (validS_iff.1 h).2
  rcases ha : atS a d with _ | x
  · have h1 := at_none.1 ha
    simp only
    cases hd : deadAt a d
    · rfl
    · obtain ⟨n, hn, e, -⟩ := deadAt_iff.1 hd
      exact absurd e (h1 n hn)
  · obtain ⟨hx, e⟩ := at_some ha
    simp only
    cases hd : deadN x
    · cases hd2 : deadAt a d
      · rfl
      · obtain ⟨n, hn, e2, h3⟩ := deadAt_iff.1 hd2
        have := srt_one hs hn hx (e2.trans e.symm)
        rw [this, hd] at h3
        cases h3
    · exact deadAt_iff.2 ⟨x, hx, e, hd⟩
theorem self_ag {a : List Nt} (h : validS a = true) : agAll a := (of_valid (l := a) (by rw [of_self h])).2.1
theorem self_fold {a : List Nt} (h : validS a = true) : foldN a [] = a := by
  have h1 := of_valid (l := a) (by rw [of_self h])
  exact congrArg Prod.fst ((of_ok h1.1 h1.2.1).1.symm.trans (of_self h))
theorem valid_of {a : List Nt} (h : validS a = true) : ∀ x ∈ a, validN x = true := (validS_iff.1 h).1
theorem ag_iff {a b : List Nt} (ha : validS a = true) (hb : validS b = true) : agS a b = true ↔ agAll (a ++ b) := by
  unfold agS
  rw [List.all_eq_true]
  constructor
  · intro h x hx y hy e
    have key : ∀ x ∈ a, ∀ y ∈ b, x.1 = y.1 → agreeN x y = true := by
      intro x hx y hy e
      have h1 := h x hx
      rw [e, at_mem (validS_iff.1 hb).2 hy] at h1
      exact h1
    rcases List.mem_append.1 hx with hx | hx <;> rcases List.mem_append.1 hy with hy | hy
    · exact self_ag ha x hx y hy e
    · exact key x hx y hy e
    · rw [agree_comm]; exact key y hy x hx e.symm
    · exact self_ag hb x hx y hy e
  · intro h x hx
    rcases hat : atS b x.1 with _ | y
    · rfl
    · obtain ⟨hy, e⟩ := at_some hat
      exact h x (List.mem_append_left _ hx) y (List.mem_append_right _ hy) e.symm
theorem ag_comm {a b : List Nt} (ha : validS a = true) (hb : validS b = true) : agS a b = agS b a := by
  have h : agAll (a ++ b) ↔ agAll (b ++ a) := by
    constructor <;> intro h x hx y hy e <;> exact h x (by simpa [or_comm] using hx) y (by simpa [or_comm] using hy) e
  rw [Bool.eq_iff_iff, ag_iff ha hb, ag_iff hb ha, h]
theorem all_app {a b : List Nt} (ha : validS a = true) (hb : validS b = true) : ∀ x ∈ a ++ b, validN x = true := by
  intro x hx
  rcases List.mem_append.1 hx with hx | hx
  · exact valid_of ha x hx
  · exact valid_of hb x hx
theorem join_fold {a b : List Nt} (ha : validS a = true) : foldN (a ++ b) [] = joinL a b := by
  unfold joinL
  conv => rhs; rw [← self_fold ha]
  unfold foldN
  rw [List.foldl_append]
theorem join_of {a b : List Nt} (ha : validS a = true) (hb : validS b = true) (h : agS a b = true) : ofN (a ++ b) = (joinL a b, 0) := by
  rw [(of_ok (all_app ha hb) ((ag_iff ha hb).1 h)).1, join_fold ha]
theorem join_no {a b : List Nt} (ha : validS a = true) (hb : validS b = true) (h : agS a b = false) : ofN (a ++ b) = ([], 15) := by
  unfold ofN
  rw [if_pos (List.all_eq_true.2 (all_app ha hb)), if_neg]
  intro e
  have := (ag_iff ha hb).2 (agB_iff.1 e)
  rw [h] at this
  cases this
theorem join_valid {a b : List Nt} (ha : validS a = true) (hb : validS b = true) (h : agS a b = true) : validS (joinL a b) = true := by
  have := (of_ok (all_app ha hb) ((ag_iff ha hb).1 h)).2.1
  rwa [join_fold ha] at this
/-- What stands at a dot of a join. -/
theorem join_at {a b : List Nt} (ha : validS a = true) (hb : validS b = true) (h : agS a b = true) (d : Dt) :
    atS (joinL a b) d = match atS a d, atS b d with | none, y => y | some x, none => some x | some x, some y => some (if y.2.2.2 = 0 then y else x) := by
  have h1 := (of_ok (all_app ha hb) ((ag_iff ha hb).1 h)).2.2 d
  rw [join_fold ha] at h1
  rw [h1]
  unfold mg
  rw [at_app2, dead_app2, dead_store ha, dead_store hb]
  rcases hx : atS a d with _ | x <;> rcases hy : atS b d with _ | y
  · rfl
  · simp only [Option.none_or, Option.map_some, Bool.false_or]
    cases hd : deadN y
    · simp
    · simp [kill_dead hd]
  · simp only [Option.some_or, Option.map_some, Bool.or_false]
    cases hd : deadN x
    · simp
    · simp [kill_dead hd]
  · simp only [Option.some_or, Option.map_some]
    obtain ⟨hxm, ex⟩ := at_some hx
    obtain ⟨hym, ey⟩ := at_some hy
    have hg : agreeN x y = true := (ag_iff ha hb).1 h x (List.mem_append_left _ hxm) y (List.mem_append_right _ hym) (ex.trans ey.symm)
    congr 1
    show (if (deadN x || deadN y) = true then killN x else x) = if y.2.2.2 = 0 then y else x
    by_cases hy0 : y.2.2.2 = 0
    · have hd : deadN y = true := by simpa [deadN] using hy0
      rw [if_pos hy0, if_pos (by rw [hd, Bool.or_true]), kill_eq hg, kill_dead hd]
    · have hd : deadN y = false := by simpa [deadN] using hy0
      rw [if_neg hy0]
      by_cases hx0 : deadN x = true
      · rw [if_pos (by rw [hx0]; rfl), kill_dead hx0]
      · rw [if_neg (by rw [hd, Bool.or_false]; exact hx0)]
theorem join_comm {a b : List Nt} (ha : validS a = true) (hb : validS b = true) (h : agS a b = true) : joinL b a = joinL a b := by
  have h2 : agS b a = true := by rw [ag_comm hb ha]; exact h
  have h3 : ofN (b ++ a) = ofN (a ++ b) := of_same fun x => by simp [or_comm]
  rw [join_of ha hb h, join_of hb ha h2] at h3
  exact congrArg Prod.fst h3
theorem self_agS {a : List Nt} (ha : validS a = true) : agS a a = true := by
  rw [ag_iff ha ha]
  intro x hx y hy e
  exact self_ag ha x (by simpa using hx) y (by simpa using hy) e
theorem join_self {a : List Nt} (ha : validS a = true) : joinL a a = a := by
  have h3 : ofN (a ++ a) = ofN a := of_same fun x => by simp
  rw [join_of ha ha (self_agS ha), of_self ha] at h3
  exact congrArg Prod.fst h3
theorem nil_valid : validS [] = true := rfl
theorem nil_ag (b : List Nt) : agS [] b = true := rfl
theorem nil_join {b : List Nt} (hb : validS b = true) : joinL [] b = b := self_fold hb
theorem join_nil (a : List Nt) : joinL a [] = a := rfl
/-- The join of a join with a third state, which agrees with both. -/
theorem ag_join {a b c : List Nt} (ha : validS a = true) (hb : validS b = true) (hc : validS c = true) (hab : agS a b = true) (hac : agS a c = true) (hbc : agS b c = true) : agS (joinL a b) c = true := by
  rw [ag_iff (join_valid ha hb hab) hc]
  have hj := join_valid ha hb hab
  have key : ∀ x ∈ joinL a b, ∀ y ∈ c, x.1 = y.1 → agreeN x y = true := by
    intro x hx y hy e
    have h1 := at_mem (validS_iff.1 hj).2 hx
    rw [join_at ha hb hab] at h1
    have kc : ∀ {l : List Nt} (hl : validS l = true), agS l c = true → ∀ z, atS l x.1 = some z → agreeN z y = true := fun hl h z hz => by
      obtain ⟨hzm, ez⟩ := at_some hz
      exact (ag_iff hl hc).1 h z (List.mem_append_left _ hzm) y (List.mem_append_right _ hy) (ez.trans e)
    rcases hx1 : atS a x.1 with _ | p <;> rcases hx2 : atS b x.1 with _ | q <;> rw [hx1, hx2] at h1
    · cases h1
    · simp only at h1
      cases h1
      exact kc hb hbc _ hx2
    · simp only at h1
      cases h1
      exact kc ha hac _ hx1
    · simp only at h1
      by_cases hq : q.2.2.2 = 0
      · rw [if_pos hq] at h1; cases h1; exact kc hb hbc _ hx2
      · rw [if_neg hq] at h1; cases h1; exact kc ha hac _ hx1
  intro x hx y hy e
  rcases List.mem_append.1 hx with hx | hx <;> rcases List.mem_append.1 hy with hy | hy
  · exact self_ag hj x hx y hy e
  · exact key x hx y hy e
  · rw [agree_comm]; exact key y hy x hx e.symm
  · exact self_ag hc x hx y hy e
theorem ag_three {a b c : List Nt} (ha : validS a = true) (hb : validS b = true) (hc : validS c = true) (hab : agS a b = true) (hac : agS a c = true) (hbc : agS b c = true) : agAll (a ++ b ++ c) := by
  have h1 := (ag_iff ha hb).1 hab
  have h2 := (ag_iff ha hc).1 hac
  have h3 := (ag_iff hb hc).1 hbc
  intro x hx y hy e
  have k1 : ∀ z, z ∈ a ++ b ++ c → z ∈ a ∨ z ∈ b ∨ z ∈ c := fun z hz => by simpa [or_assoc] using hz
  rcases k1 x hx with hx | hx | hx <;> rcases k1 y hy with hy | hy | hy
  · exact h1 x (by simp [hx]) y (by simp [hy]) e
  · exact h1 x (by simp [hx]) y (by simp [hy]) e
  · exact h2 x (by simp [hx]) y (by simp [hy]) e
  · exact h1 x (by simp [hx]) y (by simp [hy]) e
  · exact h1 x (by simp [hx]) y (by simp [hy]) e
  · exact h3 x (by simp [hx]) y (by simp [hy]) e
  · exact h2 x (by simp [hx]) y (by simp [hy]) e
  · exact h3 x (by simp [hx]) y (by simp [hy]) e
  · exact h2 x (by simp [hx]) y (by simp [hy]) e
theorem join_three {a b c : List Nt} (ha : validS a = true) (hb : validS b = true) : joinL (joinL a b) c = foldN (a ++ b ++ c) [] := by
  have e : joinL (joinL a b) c = foldN c (foldN (a ++ b) []) := by
    rw [join_fold ha]
    rfl
  rw [e]
  unfold foldN
  rw [List.foldl_append (l := a ++ b)]
theorem join_assoc {a b c : List Nt} (ha : validS a = true) (hb : validS b = true) (hc : validS c = true) (hab : agS a b = true) (hac : agS a c = true) (hbc : agS b c = true) : joinL a (joinL b c) = joinL (joinL a b) c ∧ agS a (joinL b c) = true := by
  have hbcv := join_valid hb hc hbc
  have h1 : agS (joinL b c) a = true := ag_join hb hc ha hbc (by rw [ag_comm hb ha]; exact hab) (by rw [ag_comm hc ha]; exact hac)
  have h2 : agS a (joinL b c) = true := by rw [ag_comm ha hbcv]; exact h1
  refine ⟨?_, h2⟩
  rw [← join_comm ha hbcv h2, join_three hb hc, join_three ha hb]
  have hall : ∀ x ∈ a ++ b ++ c, validN x = true := by
    intro x hx
    rcases List.mem_append.1 hx with hx | hx
    · exact all_app ha hb x hx
    · exact valid_of hc x hx
  have hag := ag_three ha hb hc hab hac hbc
  have hsame : ∀ x, x ∈ b ++ c ++ a ↔ x ∈ a ++ b ++ c := fun x => by
    simp only [List.mem_append]
    constructor <;> intro h <;> rcases h with (h | h) | h <;> simp [h]
  have h3 := of_same hsame
  rw [(of_ok hall hag).1] at h3
  have h4 := of_ok (l := b ++ c ++ a) (fun x hx => hall x ((hsame x).1 hx)) (fun x hx y hy e => hag x ((hsame x).1 hx) y ((hsame y).1 hy) e)
  rw [h4.1] at h3
  exact congrArg Prod.fst h3
/-- A state is within the join that it is part of. -/
theorem ag_part {a b : List Nt} (ha : validS a = true) (hb : validS b = true) (h : agS a b = true) : agS a (joinL a b) = true := (join_assoc ha ha hb (self_agS ha) h h).2
theorem join_part {a b : List Nt} (ha : validS a = true) (hb : validS b = true) (h : agS a b = true) : joinL a (joinL a b) = joinL a b := by
  rw [(join_assoc ha ha hb (self_agS ha) h h).1, join_self ha]
theorem join_part2 {a b : List Nt} (ha : validS a = true) (hb : validS b = true) (h : agS a b = true) : agS b (joinL a b) = true ∧ joinL b (joinL a b) = joinL a b ∧ joinL (joinL a b) a = joinL a b ∧ agS (joinL a b) a = true := by
  have h2 : agS b a = true := by rw [ag_comm hb ha]; exact h
  have h3 := ag_part hb ha h2
  have h4 := join_part hb ha h2
  rw [join_comm ha hb h] at h3 h4
  have hj := join_valid ha hb h
  have h5 := ag_part ha hb h
  have h6 : agS (joinL a b) a = true := by rw [ag_comm hj ha]; exact h5
  exact ⟨h3, h4, by rw [join_comm ha hj h5, join_part ha hb h], h6⟩
theorem within_both {a b : List Nt} (ha : validS a = true) (hb : validS b = true) (h : agS a b = true) (h1 : joinL a b = b) (h2 : joinL b a = a) : a = b := by
  rw [← h2, join_comm ha hb h, h1]
/-- What is dead stays dead. -/
theorem join_dead {a b : List Nt} (ha : validS a = true) (hb : validS b = true) (h : agS a b = true) {x : Nt} (hx : x ∈ a ∨ x ∈ b) : ∃ y, atS (joinL a b) x.1 = some y ∧ (x.2.2.2 = 0 → y.2.2.2 = 0) := by
  have h1 := join_at ha hb h x.1
  rcases hx with hx | hx
  · rw [at_mem (validS_iff.1 ha).2 hx] at h1
    rcases hy : atS b x.1 with _ | y
    · rw [hy] at h1; exact ⟨x, h1, fun e => e⟩
    · rw [hy] at h1
      refine ⟨_, h1, fun e => ?_⟩
      split
      · assumption
      · exact e
  · rw [at_mem (validS_iff.1 hb).2 hx] at h1
    rcases hy : atS a x.1 with _ | y
    · rw [hy] at h1; exact ⟨x, h1, fun e => e⟩
    · rw [hy] at h1
      refine ⟨_, h1, fun e => ?_⟩
      rw [if_pos e]
      exact e
/-- The join of some states: all nodes put together. -/
def allS (ls : List (List Nt)) : List Nt × Int := if (ls.all validS) = true then ofN ls.flatten else ([], 2)
/-- Any two of some states agree. -/
def agsS : List (List Nt) → Bool
  | [] => true
  | a :: t => (t.all fun b => agS a b) && agsS t
def joinsL (ls : List (List Nt)) : List Nt := ls.foldl joinL []
theorem flat_valid {ls : List (List Nt)} (h : ls.all validS = true) : ∀ x ∈ ls.flatten, validN x = true := by
  intro x hx
  obtain ⟨a, ha, hxa⟩ := List.mem_flatten.1 hx
  exact valid_of (List.all_eq_true.1 h a ha) x hxa
theorem ags_iff : ∀ {ls : List (List Nt)}, ls.all validS = true → (agsS ls = true ↔ agAll ls.flatten)
  | [], _ => by simp [agsS, agAll]
  | a :: t, h => by
    rw [List.all_cons, Bool.and_eq_true] at h
    have ih := ags_iff h.2
    have hva := h.1
    have hvt := List.all_eq_true.1 h.2
    rw [agsS, Bool.and_eq_true, List.all_eq_true, ih, List.flatten_cons]
    constructor
    · rintro ⟨h1, h2⟩ x hx y hy e
      have key : ∀ x ∈ a, ∀ y ∈ t.flatten, x.1 = y.1 → agreeN x y = true := by
        intro x hx y hy e
        obtain ⟨b, hb, hyb⟩ := List.mem_flatten.1 hy
        exact (ag_iff hva (hvt b hb)).1 (h1 b hb) x (List.mem_append_left _ hx) y (List.mem_append_right _ hyb) e
      rcases List.mem_append.1 hx with hx | hx <;> rcases List.mem_append.1 hy with hy | hy
      · exact self_ag hva x hx y hy e
      · exact key x hx y hy e
      · rw [agree_comm]; exact key y hy x hx e.symm
      · exact h2 x hx y hy e
    · intro hg
      refine ⟨fun b hb => (ag_iff hva (hvt b hb)).2 fun x hx y hy e => ?_, fun x hx y hy e => hg x (List.mem_append_right _ hx) y (List.mem_append_right _ hy) e⟩
      have k : ∀ z, z ∈ a ++ b → z ∈ a ++ t.flatten := fun z hz => by
        rcases List.mem_append.1 hz with hz | hz
        · exact List.mem_append_left _ hz
        · exact List.mem_append_right _ (List.mem_flatten.2 ⟨b, hb, hz⟩)
      exact hg x (k x hx) y (k y hy) e
theorem joins_fold : ∀ (ls : List (List Nt)) (o : List Nt), ls.foldl joinL o = foldN ls.flatten o
  | [], o => rfl
  | a :: t, o => by
    rw [List.foldl_cons, joins_fold t, List.flatten_cons]
    unfold joinL foldN
    rw [List.foldl_append]
theorem alls_yes {ls : List (List Nt)} (h : ls.all validS = true) (hg : agsS ls = true) : allS ls = (joinsL ls, 0) ∧ validS (joinsL ls) = true := by
  have h1 := of_ok (flat_valid h) ((ags_iff h).1 hg)
  have e : joinsL ls = foldN ls.flatten [] := joins_fold ls []
  unfold allS
  rw [if_pos h, h1.1, e]
  exact ⟨rfl, h1.2.1⟩
theorem alls_no {ls : List (List Nt)} (h : ls.all validS = true) (hg : agsS ls = false) : allS ls = ([], 15) := by
  unfold allS ofN
  rw [if_pos h, if_pos (List.all_eq_true.2 (flat_valid h)), if_neg]
  intro e
  have := (ags_iff h).2 (agB_iff.1 e)
  rw [hg] at this
  cases this
theorem alls_same {l m : List (List Nt)} (hl : l.all validS = true) (hm : m.all validS = true) (h : ∀ a, a ∈ l ↔ a ∈ m) : allS l = allS m := by
  unfold allS
  rw [if_pos hl, if_pos hm]
  refine of_same fun x => ?_
  constructor <;> intro hx <;> obtain ⟨a, ha, hxa⟩ := List.mem_flatten.1 hx
  · exact List.mem_flatten.2 ⟨a, (h a).1 ha, hxa⟩
  · exact List.mem_flatten.2 ⟨a, (h a).2 ha, hxa⟩
/-- Each of some states is within their join. -/
theorem alls_part {ls : List (List Nt)} (h : ls.all validS = true) (hg : agsS ls = true) {a : List Nt} (ha : a ∈ ls) : agS a (joinsL ls) = true ∧ joinL a (joinsL ls) = joinsL ls := by
  have hva := List.all_eq_true.1 h a ha
  obtain ⟨he, hvj⟩ := alls_yes h hg
  have hga := (ags_iff h).1 hg
  have hat : ∀ d, atS (joinsL ls) d = mg ls.flatten d := by
    have e : joinsL ls = foldN ls.flatten [] := joins_fold ls []
    rw [e]
    exact (of_ok (flat_valid h) hga).2.2
  have hag : agS a (joinsL ls) = true := by
    rw [ag_iff hva hvj]
    have key : ∀ x ∈ a, ∀ y ∈ joinsL ls, x.1 = y.1 → agreeN x y = true := by
      intro x hx y hy e
      have h1 := at_mem (validS_iff.1 hvj).2 hy
      rw [hat] at h1
      unfold mg at h1
      obtain ⟨z, hz, e2⟩ := Option.map_eq_some_iff.1 h1
      obtain ⟨hzm, ez⟩ := at_some hz
      have hxz := hga x (List.mem_flatten.2 ⟨a, ha, hx⟩) z hzm (e.trans ez.symm)
      split at e2
      · rw [← e2, agree_comm]
        rw [agree_comm] at hxz
        exact agree_kill hxz
      · rw [← e2]; exact hxz
    intro x hx y hy e
    rcases List.mem_append.1 hx with hx | hx <;> rcases List.mem_append.1 hy with hy | hy
    · exact self_ag hva x hx y hy e
    · exact key x hx y hy e
    · rw [agree_comm]; exact key y hy x hx e.symm
    · exact self_ag hvj x hx y hy e
  refine ⟨hag, ?_⟩
  refine at_ext (validS_iff.1 (join_valid hva hvj hag)).2 (validS_iff.1 hvj).2 fun d => ?_
  rw [join_at hva hvj hag]
  rcases hx : atS a d with _ | x
  · rfl
  · obtain ⟨hxm, ex⟩ := at_some hx
    have hxf : x ∈ ls.flatten := List.mem_flatten.2 ⟨a, ha, hxm⟩
    have h1 := hat d
    unfold mg at h1
    rcases hz : atS ls.flatten d with _ | z
    · exact absurd ex (at_none.1 hz x hxf)
    · rw [hz, Option.map_some] at h1
      obtain ⟨hzm, ez⟩ := at_some hz
      have hxz := hga x hxf z hzm (ex.trans ez.symm)
      rw [h1]
      simp only
      congr 1
      cases hd : deadAt ls.flatten d
      · have hx0 : deadN x = false := by
          cases h0 : deadN x
          · rfl
          · have := deadAt_iff.2 ⟨x, hxf, ex, h0⟩
            rw [hd] at this
            cases this
        have hz0 : deadN z = false := by
          cases h0 : deadN z
          · rfl
          · have := deadAt_iff.2 ⟨z, hzm, ez, h0⟩
            rw [hd] at this
            cases this
        have k1 : ¬ z.2.2.2 = 0 := by simpa [deadN] using hz0
        have k2 : ¬ x.2.2.2 = 0 := by simpa [deadN] using hx0
        rw [if_neg (by simp : ¬ (false = true)), if_neg k1]
        obtain ⟨g1, g2, g3, g4⟩ := agree_iff.1 hxz
        exact node_ext g1 g2 g3 (by rcases g4 with g | g | g; exact g; exact absurd g k2; exact absurd g k1)
      · rw [if_pos (rfl : true = true), if_pos (show (killN z).2.2.2 = 0 from rfl)]
end Go.Proofs.YtgopkffgljiblaaGreat.Jn
end

/-
  Layer 14, plainly: the reference's join (one node after the other), and two stores zipped from the front.
-/
section
namespace Go.Proofs.YtgopkffgljiblaaGreat.Jn
set_option linter.unusedVariables false
open D Nd Qs

/-! ### The reference's join -/
/-- What two nodes are merged to, whatever they are. -/
def mrgR (a b : Nt) : Nt := if agreeN a b = true then (if b.2.2.2 = 0 then b else a) else zeroN
/-- The first place of a dot, or the list's length. -/
def hitS (l : List Nt) (d : Dt) : Nat := (l.takeWhile fun n => !decide (n.1 = d)).length
/-- One more node. -/
def stepR (o : List Nt) (n : Nt) : List Nt := match o[hitS o n.1]? with | some r => o.set (hitS o n.1) (mrgR r n) | none => o.take (posS o n.1) ++ n :: o.drop (posS o n.1)
def joinR (a b : List Nt) : List Nt := b.foldl stepR a
theorem hit_cons (x : Nt) (l : List Nt) (d : Dt) : hitS (x :: l) d = if x.1 = d then 0 else hitS l d + 1 := by
  unfold hitS
  rw [List.takeWhile_cons]
  by_cases h : x.1 = d
  · simp [h]
  · simp [h]
theorem hit_le : ∀ (l : List Nt) (d : Dt), hitS l d ≤ l.length
  | [], d => Nat.le_refl _
  | x :: l, d => by
    rw [hit_cons, List.length_cons]
    have := hit_le l d
    split <;> omega
theorem hit_at : ∀ (l : List Nt) (d : Dt), l[hitS l d]? = atS l d
  | [], d => rfl
  | x :: l, d => by
    rw [hit_cons]
    unfold atS
    rw [List.find?_cons]
    by_cases h : x.1 = d
    · simp [h]
    · simp only [h, if_false, List.getElem?_cons_succ, decide_false]
      exact hit_at l d
theorem hit_eq {l : List Nt} {d : Dt} {i : Nat} (hi : i < l.length) (h : ∀ j (hj : j < l.length), j < i → l[j].1 ≠ d) (e : l[i].1 = d) : hitS l d = i := by
  induction l generalizing i with
  | nil => exact absurd hi (by simp)
  | cons x l ih =>
    rw [hit_cons]
    rcases i with _ | i
    · rw [if_pos (by simpa using e)]
    · have h0 := h 0 (by simp) (by omega)
      rw [if_neg (by simpa using h0)]
      rw [ih (i := i) (by simpa using hi) (fun j hj hji => by have := h (j + 1) (by simpa using hj) (by omega); simpa using this) (by simpa using e)]
theorem hit_pos {l : List Nt} (hs : SrtN l) {d : Dt} {r : Nt} (h : atS l d = some r) : hitS l d = posS l d := by
  obtain ⟨hp, e, -⟩ := setS_old hs (n := (d, (0, 0), 0, 0)) h
  obtain ⟨-, hd⟩ := at_some h
  refine hit_eq hp (fun j hj hji => ?_) (by rw [show l[posS l d] = r from e]; exact hd)
  exact less_ne (posS_lt hj hji)
/-- Into a store, a node that agrees. -/
theorem step_put {o : List Nt} (ho : validS o = true) {n : Nt} (hn : validN n = true) (h : ∀ r, atS o n.1 = some r → agreeN r n = true) : stepR o n = (putN o n).1 := by
  have hs := (validS_iff.1 ho).2
  unfold stepR
  rw [hit_at]
  rcases hr : atS o n.1 with _ | r
  · unfold putN
    rw [hr]
    exact (setS_new hr).symm
  · have hg := h r hr
    have hrv := (validS_iff.1 ho).1 r (at_some hr).1
    have hm : mergeN r n = (mrgR r n, 0) := by
      unfold mergeN mrgR
      rw [if_pos (by rw [hrv, hn]; rfl), if_pos hg, if_pos hg]
    unfold putN
    simp only [hr, hm, if_true]
    have hd : (mrgR r n).1 = n.1 := by
      have := (merge_dot (a := r) (b := n) (by rw [hm])).1.trans (merge_dot (a := r) (b := n) (by rw [hm])).2
      rwa [hm] at this
    obtain ⟨hp, e1, e2⟩ := setS_old hs (n := mrgR r n) (r := r) (by rw [hd]; exact hr)
    rw [e2, hit_pos hs hr, hd, List.set_eq_take_append_cons_drop, if_pos (by rw [← hd]; exact hp)]
/-- The reference's join of two stores that agree. -/
theorem joinR_go : ∀ (t pre o : List Nt), validS o = true → (∀ d, atS o d = mg pre d) → (∀ x ∈ t, validN x = true) → agAll (pre ++ t) → t.foldl stepR o = foldN t o
  | [], pre, o, _, _, _, _ => rfl
  | n :: t, pre, o, hv, ha, hn, hg => by
    have hnv := hn n (by simp)
    have hg1 : agAll (pre ++ [n]) := by
      have hin : ∀ x, x ∈ pre ++ [n] → x ∈ pre ++ n :: t := fun x hx => by
        rcases List.mem_append.1 hx with h | h
        · exact List.mem_append_left _ h
        · exact List.mem_append_right _ (by simp at h; simp [h])
      exact fun x hx y hy e => hg x (hin x hx) y (hin y hy) e
    obtain ⟨h1, h2, h3⟩ := step_ok hv ha hnv hg1
    have hst : stepR o n = (putN o n).1 := by
      refine step_put hv hnv fun r hr => ?_
      have hc := h1
      unfold putN at hc
      rw [hr] at hc
      by_cases hm : (mergeN r n).2 = 0
      · exact (merge_yes hm).2.2.1
      · simp only [hm, if_false] at hc
    show t.foldl stepR (stepR o n) = foldN t ((putN o n).1)
    rw [hst]
    exact joinR_go t (pre ++ [n]) _ h2 h3 (fun x hx => hn x (by simp [hx])) (by simpa using hg)
theorem joinR_eq {a b : List Nt} (ha : validS a = true) (hb : validS b = true) (h : agS a b = true) : joinR a b = joinL a b := by
  refine joinR_go b a a ha (fun d => ?_) (valid_of hb) ((ag_iff ha hb).1 h)
  have h1 := (of_ok (valid_of ha) (self_ag ha)).2.2 d
  rw [self_fold ha] at h1
  exact h1

/-! ### Zipped from the front -/
def zipJ : List Nt → List Nt → List Nt
  | [], b => b
  | a, [] => a
  | x :: a, y :: b => if x.1 = y.1 then (if y.2.2.2 = 0 then y else x) :: zipJ a b else if less x.1 y.1 = true then x :: zipJ a (y :: b) else y :: zipJ (x :: a) b
termination_by a b => a.length + b.length
theorem zip_nil (a : List Nt) : zipJ a [] = a := by
  rcases a with _ | ⟨x, a⟩ <;> rw [zipJ] <;> simp
theorem zip_end (a b : List Nt) (i k : Nat) (hi : a.length ≤ i) : zipJ (a.drop i) (b.drop k) = b.drop k := by
  rw [List.drop_eq_nil_of_le hi, zipJ]
theorem zip_end2 (a b : List Nt) (i k : Nat) (hk : b.length ≤ k) : zipJ (a.drop i) (b.drop k) = a.drop i := by
  rw [List.drop_eq_nil_of_le hk, zip_nil]
theorem zip_both (a b : List Nt) (i k : Nat) (hi : i < a.length) (hk : k < b.length) (h : a[i].1 = b[k].1) :
    zipJ (a.drop i) (b.drop k) = (if b[k].2.2.2 = 0 then b[k] else a[i]) :: zipJ (a.drop (i + 1)) (b.drop (k + 1)) := by
  rw [List.drop_eq_getElem_cons hi, List.drop_eq_getElem_cons hk, zipJ, if_pos h]
theorem zip_left (a b : List Nt) (i k : Nat) (hi : i < a.length) (hk : k < b.length) (h : less a[i].1 b[k].1 = true) :
    zipJ (a.drop i) (b.drop k) = a[i] :: zipJ (a.drop (i + 1)) (b.drop k) := by
  rw [List.drop_eq_getElem_cons hi, List.drop_eq_getElem_cons hk, zipJ, if_neg (less_ne h), if_pos h]
theorem zip_right (a b : List Nt) (i k : Nat) (hi : i < a.length) (hk : k < b.length) (h : less b[k].1 a[i].1 = true) :
    zipJ (a.drop i) (b.drop k) = b[k] :: zipJ (a.drop i) (b.drop (k + 1)) := by
  have h2 : less a[i].1 b[k].1 = false := by
    rcases e : less a[i].1 b[k].1 with _ | _
    · rfl
    · have := less_trans e h
      rw [less_irr] at this
      cases this
  rw [List.drop_eq_getElem_cons hi, List.drop_eq_getElem_cons hk, zipJ, if_neg (less_ne h).symm, if_neg (by rw [h2]; decide), ← List.drop_eq_getElem_cons hi]
theorem srt_cons {x : Nt} {a : List Nt} (h : SrtN (x :: a)) : (∀ y ∈ a, less x.1 y.1 = true) ∧ SrtN a := List.pairwise_cons.1 h
theorem not_less {a b : Nt} (hne : a.1 ≠ b.1) (h : ¬less a.1 b.1 = true) : less b.1 a.1 = true := by
  rcases h4 : less b.1 a.1 with _ | _
  · exact absurd (less_tri (by simpa using h) h4) hne
  · rfl
theorem zip_mem : ∀ (a b : List Nt) (d : Dt), (∀ x ∈ a, less d x.1 = true) → (∀ y ∈ b, less d y.1 = true) → ∀ z ∈ zipJ a b, less d z.1 = true
  | [], b, d, _, hb => by rw [zipJ]; exact hb
  | x :: a, [], d, ha, _ => by rw [zip_nil]; exact ha
  | x :: a, y :: b, d, ha, hb => by
    rw [zipJ]
    intro z hz
    split at hz
    · rcases List.mem_cons.1 hz with rfl | hz
      · split
        · exact hb y (by simp)
        · exact ha x (by simp)
      · exact zip_mem a b d (fun q hq => ha q (by simp [hq])) (fun q hq => hb q (by simp [hq])) z hz
    · split at hz
      · rcases List.mem_cons.1 hz with rfl | hz
        · exact ha z (by simp)
        · exact zip_mem a (y :: b) d (fun q hq => ha q (by simp [hq])) hb z hz
      · rcases List.mem_cons.1 hz with rfl | hz
        · exact hb z (by simp)
        · exact zip_mem (x :: a) b d ha (fun q hq => hb q (by simp [hq])) z hz
termination_by a b => a.length + b.length
theorem zip_srt : ∀ (a b : List Nt), SrtN a → SrtN b → SrtN (zipJ a b)
  | [], b, _, hb => by rw [zipJ]; exact hb
  | x :: a, [], ha, _ => by rw [zip_nil]; exact ha
  | x :: a, y :: b, ha, hb => by
    obtain ⟨ha1, ha2⟩ := srt_cons ha
    obtain ⟨hb1, hb2⟩ := srt_cons hb
    rw [zipJ]
    split
    · rename_i e
      refine List.pairwise_cons.2 ⟨fun z hz => ?_, zip_srt a b ha2 hb2⟩
      have : (if y.2.2.2 = 0 then y else x).1 = x.1 := by split; exact e.symm; rfl
      rw [this]
      exact zip_mem a b x.1 ha1 (fun q hq => by rw [e]; exact hb1 q hq) z hz
    · rename_i hne
      split
      · rename_i hl
        refine List.pairwise_cons.2 ⟨fun z hz => ?_, zip_srt a (y :: b) ha2 hb⟩
        exact zip_mem a (y :: b) x.1 ha1 (fun q hq => by rcases List.mem_cons.1 hq with rfl | hq; exact hl; exact less_trans hl (hb1 q hq)) z hz
      · rename_i hl
        have hl2 := not_less hne hl
        refine List.pairwise_cons.2 ⟨fun z hz => ?_, zip_srt (x :: a) b ha hb2⟩
        exact zip_mem (x :: a) b y.1 (fun q hq => by rcases List.mem_cons.1 hq with rfl | hq; exact hl2; exact less_trans hl2 (ha1 q hq)) hb1 z hz
termination_by a b => a.length + b.length
theorem at_cons (x : Nt) (l : List Nt) (d : Dt) : atS (x :: l) d = if x.1 = d then some x else atS l d := by
  unfold atS
  rw [List.find?_cons]
  by_cases h : x.1 = d <;> simp [h]
theorem at_past {l : List Nt} {d : Dt} (h : ∀ y ∈ l, less d y.1 = true) : atS l d = none := at_none.2 fun n hn e => by
  have := h n hn
  rw [e, less_irr] at this
  cases this
theorem zip_at : ∀ (a b : List Nt), SrtN a → SrtN b → ∀ d, atS (zipJ a b) d = match atS a d, atS b d with | none, y => y | some x, none => some x | some x, some y => some (if y.2.2.2 = 0 then y else x)
  | [], b, _, hb => fun d => by rw [zipJ]; rfl
  | x :: a, [], ha, _ => fun d => by
    rw [zip_nil]
    show atS (x :: a) d = match atS (x :: a) d, none with | none, y => y | some x, none => some x | some x, some y => some (if y.2.2.2 = 0 then y else x)
    cases atS (x :: a) d <;> rfl
  | x :: a, y :: b, ha, hb => fun d => by
    obtain ⟨ha1, ha2⟩ := srt_cons ha
    obtain ⟨hb1, hb2⟩ := srt_cons hb
    rw [zipJ]
    by_cases e : x.1 = y.1
    · rw [if_pos e]
      have e3 : (if y.2.2.2 = 0 then y else x).1 = x.1 := by split; exact e.symm; rfl
      rw [at_cons, at_cons x, at_cons y, e3, ← e, zip_at a b ha2 hb2 d]
      by_cases hd : x.1 = d
      · simp only [hd, if_true]
      · simp only [hd, if_false]
    · rw [if_neg e]
      by_cases hl : less x.1 y.1 = true
      · rw [if_pos hl, at_cons, at_cons x, zip_at a (y :: b) ha2 hb d]
        by_cases hd : x.1 = d
        · subst hd
          have hy : atS (y :: b) x.1 = none := at_past fun q hq => by rcases List.mem_cons.1 hq with rfl | hq; exact hl; exact less_trans hl (hb1 q hq)
          simp only [if_true, hy]
        · simp only [hd, if_false]
      · have hl2 := not_less e hl
        rw [if_neg hl, at_cons, at_cons y, zip_at (x :: a) b ha hb2 d]
        by_cases hd : y.1 = d
        · subst hd
          have hx : atS (x :: a) y.1 = none := at_past fun q hq => by rcases List.mem_cons.1 hq with rfl | hq; exact hl2; exact less_trans hl2 (ha1 q hq)
          simp only [if_true, hx]
        · simp only [hd, if_false]
termination_by a b => a.length + b.length
/-- Two stores that agree, zipped, are their join. -/
theorem zip_join {a b : List Nt} (ha : validS a = true) (hb : validS b = true) (h : agS a b = true) : zipJ a b = joinL a b :=
  at_ext (zip_srt a b (validS_iff.1 ha).2 (validS_iff.1 hb).2) (validS_iff.1 (join_valid ha hb h)).2 fun d => by
    rw [zip_at a b (validS_iff.1 ha).2 (validS_iff.1 hb).2 d, join_at ha hb h d]
    try (rcases atS a d with _ | x <;> rcases atS b d with _ | y <;> rfl)
/-- Whether all common dots agree, from the front. -/
def zagB : List Nt → List Nt → Bool
  | [], _ => true
  | _, [] => true
  | x :: a, y :: b => if x.1 = y.1 then agreeN x y && zagB a b else if less x.1 y.1 = true then zagB a (y :: b) else zagB (x :: a) b
termination_by a b => a.length + b.length
theorem zag_nil (a : List Nt) : zagB a [] = true := by
  rcases a with _ | ⟨x, a⟩ <;> rw [zagB]; simp
theorem zag_end (a b : List Nt) (i k : Nat) (hi : a.length ≤ i) : zagB (a.drop i) (b.drop k) = true := by
  rw [List.drop_eq_nil_of_le hi, zagB]
theorem zag_end2 (a b : List Nt) (i k : Nat) (hk : b.length ≤ k) : zagB (a.drop i) (b.drop k) = true := by
  rw [List.drop_eq_nil_of_le hk, zag_nil]
theorem zag_both (a b : List Nt) (i k : Nat) (hi : i < a.length) (hk : k < b.length) (h : a[i].1 = b[k].1) :
    zagB (a.drop i) (b.drop k) = (agreeN a[i] b[k] && zagB (a.drop (i + 1)) (b.drop (k + 1))) := by
  rw [List.drop_eq_getElem_cons hi, List.drop_eq_getElem_cons hk, zagB, if_pos h]
theorem zag_left (a b : List Nt) (i k : Nat) (hi : i < a.length) (hk : k < b.length) (h : less a[i].1 b[k].1 = true) :
    zagB (a.drop i) (b.drop k) = zagB (a.drop (i + 1)) (b.drop k) := by
  conv => lhs; rw [List.drop_eq_getElem_cons hi, List.drop_eq_getElem_cons hk, zagB, if_neg (less_ne h), if_pos h]
  rw [← List.drop_eq_getElem_cons hk]
theorem zag_right (a b : List Nt) (i k : Nat) (hi : i < a.length) (hk : k < b.length) (h : less b[k].1 a[i].1 = true) :
    zagB (a.drop i) (b.drop k) = zagB (a.drop i) (b.drop (k + 1)) := by
  have h2 : less a[i].1 b[k].1 = false := by
    rcases e : less a[i].1 b[k].1 with _ | _
    · rfl
    · have := less_trans e h
      rw [less_irr] at this
      cases this
  conv => lhs; rw [List.drop_eq_getElem_cons hi, List.drop_eq_getElem_cons hk, zagB, if_neg (less_ne h).symm, if_neg (by rw [h2]; decide)]
  rw [← List.drop_eq_getElem_cons hi]
theorem ag_cons (x : Nt) (a b : List Nt) : agS (x :: a) b = ((match atS b x.1 with | none => true | some y => agreeN x y) && agS a b) := by
  unfold agS
  rw [List.all_cons]
  try (cases atS b x.1 <;> rfl)
theorem ag_skip {a b : List Nt} {y : Nt} (h : ∀ x ∈ a, y.1 ≠ x.1) : agS a (y :: b) = agS a b := by
  unfold agS
  rw [Bool.eq_iff_iff, List.all_eq_true, List.all_eq_true]
  constructor <;> intro h1 x hx <;> have h2 := h1 x hx
  · rw [at_cons, if_neg (h x hx)] at h2; exact h2
  · rw [at_cons, if_neg (h x hx)]; exact h2
theorem zag_ag : ∀ (a b : List Nt), SrtN a → SrtN b → zagB a b = agS a b
  | [], b, _, _ => by rw [zagB]; rfl
  | x :: a, [], _, _ => by
    rw [zag_nil]
    exact (List.all_eq_true.2 fun z _ => rfl).symm
  | x :: a, y :: b, ha, hb => by
    obtain ⟨ha1, ha2⟩ := srt_cons ha
    obtain ⟨hb1, hb2⟩ := srt_cons hb
    rw [zagB]
    by_cases e : x.1 = y.1
    · rw [if_pos e, ag_cons, at_cons, if_pos e.symm, ag_skip (fun q hq => by rw [← e]; exact less_ne (ha1 q hq)), zag_ag a b ha2 hb2]
    · rw [if_neg e]
      by_cases hl : less x.1 y.1 = true
      · have hy : atS (y :: b) x.1 = none := at_past fun q hq => by rcases List.mem_cons.1 hq with rfl | hq; exact hl; exact less_trans hl (hb1 q hq)
        rw [if_pos hl, ag_cons, hy, zag_ag a (y :: b) ha2 hb]
        rfl
      · have hl2 := not_less e hl
        rw [if_neg hl, ag_skip (fun q hq => by rcases List.mem_cons.1 hq with rfl | hq; exact less_ne hl2; exact less_ne (less_trans hl2 (ha1 q hq))), zag_ag (x :: a) b ha hb2]
termination_by a b => a.length + b.length

/-! ### Some states -/
theorem joinsR_fold : ∀ (ls : List (List Nt)) (o : List Nt), ls.foldl joinR o = ls.flatten.foldl stepR o
  | [], o => rfl
  | a :: t, o => by
    rw [List.foldl_cons, joinsR_fold t, List.flatten_cons, List.foldl_append]
    rfl
theorem joinsR_eq {ls : List (List Nt)} (h : ls.all validS = true) (hg : agsS ls = true) : ls.foldl joinR [] = joinsL ls := by
  rw [joinsR_fold]
  exact (joinR_go ls.flatten [] [] nil_valid (fun d => rfl) (flat_valid h) ((ags_iff h).1 hg)).trans (joins_fold ls []).symm
theorem ags_snoc : ∀ (l : List (List Nt)) (x : List Nt), (l ++ [x]).all validS = true → agsS (l ++ [x]) = (agsS l && l.all fun a => agS x a)
  | [], x, _ => rfl
  | a :: t, x, h => by
    rw [List.cons_append, List.all_cons, Bool.and_eq_true] at h
    have hx : validS x = true := List.all_eq_true.1 h.2 x (by simp)
    rw [List.cons_append, agsS, ags_snoc t x h.2, agsS, List.all_append, List.all_cons, ag_comm h.1 hx]
    simp only [List.all_cons, List.all_nil, Bool.and_true]
    cases agS x a <;> cases agsS t <;> cases (t.all fun b => agS a b) <;> cases (t.all fun a => agS x a) <;> rfl
end Go.Proofs.YtgopkffgljiblaaGreat.Jn
end

/-
  Stores, plainly: nodes with different dots as they have come so far; where the node with a dot is.
-/
section
namespace Go.Proofs.YtgopkffgljiblaaGreat.Qs
set_option linter.unusedVariables false
open D Nd

/-- Where the node with a dot is. -/
def idxG (l : List Nt) (d : Dt) : Option Int := (l.findIdx? fun x => decide (x.1 = d)).map Int.ofNat
theorem idxG_none {l : List Nt} {d : Dt} : idxG l d = none ↔ atS l d = none := by
  unfold idxG atS
  rw [Option.map_eq_none_iff, List.findIdx?_eq_none_iff, List.find?_eq_none]
  constructor
  · intro h x hx; simpa using h x hx
  · intro h x hx; simpa using h x hx
theorem idxG_some {l : List Nt} {d : Dt} {i : Int} (h : idxG l d = some i) : ∃ k, ∃ hk : k < l.length, i = (k : Int) ∧ l[k].1 = d ∧ atS l d = some l[k] := by
  unfold idxG at h
  obtain ⟨k, h1, rfl⟩ := Option.map_eq_some_iff.1 h
  obtain ⟨hk, h2, h3⟩ := List.findIdx?_eq_some_iff_getElem.1 h1
  refine ⟨k, hk, rfl, by simpa using h2, ?_⟩
  refine (idx_hit hk (fun j hj hjk => ?_) (by simpa using h2)).2
  simpa using h3 j hjk
/-- No two nodes have one dot. -/
def DN (l : List Nt) : Prop := (l.map (·.1)).Nodup
theorem dn_nil : DN [] := List.nodup_nil
theorem dn_at {l : List Nt} (h : DN l) {i j : Nat} (hi : i < l.length) (hj : j < l.length) (e : l[i].1 = l[j].1) : i = j := by
  have h2 : (l.map (·.1)).Nodup := h
  rw [List.nodup_iff_pairwise_ne, List.pairwise_iff_getElem] at h2
  rcases Nat.lt_trichotomy i j with k | k | k
  · have := h2 i j (by simpa using hi) (by simpa using hj) k
    simp only [List.getElem_map] at this
    exact absurd e this
  · exact k
  · have := h2 j i (by simpa using hj) (by simpa using hi) k
    simp only [List.getElem_map] at this
    exact absurd e.symm this
theorem dn_of {l : List Nt} (h : ∀ i j (hi : i < l.length) (hj : j < l.length), i < j → l[i].1 ≠ l[j].1) : DN l := by
  unfold DN
  rw [List.nodup_iff_pairwise_ne, List.pairwise_iff_getElem]
  intro i j hi hj hij
  simp only [List.getElem_map]
  exact h i j (by simpa using hi) (by simpa using hj) hij
theorem dn_srt {l : List Nt} (h : SrtN l) : DN l := dn_of fun i j hi hj hij => less_ne (List.pairwise_iff_getElem.1 h i j hi hj hij)
theorem dn_take {l : List Nt} (h : DN l) (k : Nat) : DN (l.take k) := by
  unfold DN at *
  rw [List.map_take]
  exact List.Sublist.nodup (List.take_sublist _ _) h
theorem dn_mem {l : List Nt} (h : DN l) {k : Nat} (hk : k < l.length) : atS l l[k].1 = some l[k] := (idx_hit hk (fun j hj hjk e => by have := dn_at h hj hk e; omega) rfl).2
theorem idxG_mem {l : List Nt} (h : DN l) {k : Nat} (hk : k < l.length) : idxG l l[k].1 = some (k : Int) := by
  rcases e : idxG l l[k].1 with _ | i
  · rw [idxG_none] at e
    exact absurd rfl (at_none.1 e _ (List.getElem_mem hk))
  · obtain ⟨j, hj, rfl, e2, -⟩ := idxG_some e
    rw [dn_at h hj hk e2]
theorem idxG_app {l : List Nt} {n : Nt} (h : atS l n.1 = none) (d : Dt) : idxG (l ++ [n]) d = if d = n.1 then some (l.length : Int) else idxG l d := by
  have h0 := at_none.1 h
  unfold idxG
  rw [List.findIdx?_append]
  by_cases hd : d = n.1
  · subst hd
    have : List.findIdx? (fun x : Nt => decide (x.1 = n.1)) l = none := by
      rw [List.findIdx?_eq_none_iff]; intro x hx; simpa using h0 x hx
    rw [this]
    simp
  · rw [if_neg hd]
    have h1 : List.findIdx? (fun x : Nt => decide (x.1 = d)) [n] = none := by
      rw [List.findIdx?_eq_none_iff]; intro x hx; simp at hx; subst hx; simpa using fun e => hd e.symm
    rw [h1]
    simp
theorem dn_app {l : List Nt} {n : Nt} (hl : DN l) (h : atS l n.1 = none) : DN (l ++ [n]) := by
  unfold DN at *
  rw [List.map_append, List.nodup_append]
  refine ⟨hl, by simp, fun a ha b hb => ?_⟩
  obtain ⟨x, hx, rfl⟩ := List.mem_map.1 ha
  simp at hb
  subst hb
  exact at_none.1 h x hx
theorem idxG_take {l : List Nt} (h : DN l) {k : Nat} (hk : k < l.length) (d : Dt) : idxG (l.take (k + 1)) d = if d = l[k].1 then some (k : Int) else idxG (l.take k) d := by
  have e : l.take (k + 1) = l.take k ++ [l[k]] := by rw [List.take_add_one, List.getElem?_eq_getElem hk]; rfl
  have hn : atS (l.take k) l[k].1 = none := at_none.2 fun x hx hxe => by
    obtain ⟨j, hj, rfl⟩ := List.mem_iff_getElem.1 hx
    rw [List.length_take] at hj
    rw [List.getElem_take] at hxe
    have := dn_at h (by omega) hk hxe
    omega
  rw [e, idxG_app hn, List.length_take, Nat.min_eq_left (Nat.le_of_lt hk)]
theorem dn_set {l : List Nt} {k : Nat} {m : Nt} (hl : DN l) (hk : k < l.length) (e : m.1 = l[k].1) : DN (l.set k m) := by
  have : (l.set k m).map (·.1) = l.map (·.1) := by
    rw [List.map_set, e]
    apply List.ext_getElem (by simp)
    intro i h1 h2
    rw [List.getElem_set]
    split
    · rename_i h; subst h; simp
    · rfl
  unfold DN at *
  rw [this]; exact hl
theorem idxG_set {l : List Nt} {k : Nat} {m : Nt} (hk : k < l.length) (e : m.1 = l[k].1) : idxG (l.set k m) = idxG l := by
  have : ∀ (l : List Nt) (k : Nat) (hk : k < l.length) (d : Dt), m.1 = l[k].1 → (l.set k m).findIdx? (fun x => decide (x.1 = d)) = l.findIdx? (fun x => decide (x.1 = d)) := by
    intro l
    induction l with
    | nil => intro k hk; simp at hk
    | cons a t ih =>
      intro k hk d e
      cases k with
      | zero =>
        simp only [List.getElem_cons_zero] at e
        rw [List.set_cons_zero, List.findIdx?_cons, List.findIdx?_cons, e]
      | succ k =>
        simp only [List.getElem_cons_succ] at e
        rw [List.set_cons_succ, List.findIdx?_cons, List.findIdx?_cons, ih k (by simpa using hk) d e]
  funext d
  unfold idxG
  rw [this l k hk d e]
theorem at_set {l : List Nt} {k : Nat} {m : Nt} (hl : DN l) (hk : k < l.length) (e : m.1 = l[k].1) (d : Dt) : atS (l.set k m) d = if d = m.1 then some m else atS l d := by
  have h2 := dn_set hl hk e
  have hk2 : k < (l.set k m).length := by simpa using hk
  by_cases hd : d = m.1
  · subst hd
    rw [if_pos rfl]
    have := dn_mem h2 hk2
    simpa using this
  · rw [if_neg hd]
    rcases hx : atS l d with _ | x
    · rw [at_none] at hx ⊢
      intro y hy
      rcases List.mem_or_eq_of_mem_set hy with h | rfl
      · exact hx y h
      · exact fun e => hd e.symm
    · obtain ⟨h3, h4⟩ := at_some hx
      obtain ⟨j, hj, rfl⟩ := List.mem_iff_getElem.1 h3
      have hjk : j ≠ k := by rintro rfl; exact hd (h4.symm.trans e.symm)
      have hj2 : j < (l.set k m).length := by simpa using hj
      have := dn_mem h2 hj2
      rw [List.getElem_set_ne (by omega)] at this
      rw [← h4]; exact this

/-! ### A gathering -/
/-- The nodes ns are what the nodes pre are merged to, dot by dot. -/
structure Gd (ns pre : List Nt) : Prop where
  dn : DN ns
  ag : agAll pre
  vd : ∀ x ∈ pre, validN x = true
  at_ : ∀ d, atS ns d = mg pre d
  len : ns.length ≤ pre.length
theorem gd_nil : Gd [] [] := ⟨dn_nil, (fun a ha => by cases ha), (fun a ha => by cases ha), (fun d => rfl), Nat.le_refl _⟩
theorem gd_fold {ns pre : List Nt} (h : Gd ns pre) : validS (foldN pre []) = true ∧ ∀ d, atS (foldN pre []) d = atS ns d := by
  obtain ⟨-, h2, h3⟩ := of_ok h.vd h.ag
  exact ⟨h2, fun d => by rw [h3, h.at_]⟩
theorem gd_mem {ns pre : List Nt} (h : Gd ns pre) {n : Nt} (hn : n ∈ ns) : validN n = true := by
  obtain ⟨h1, h2⟩ := gd_fold h
  obtain ⟨i, hi, rfl⟩ := List.mem_iff_getElem.1 hn
  have := dn_mem h.dn hi
  rw [← h2] at this
  exact (validS_iff.1 h1).1 _ (at_some this).1
/-- Living nodes come first, so those that agree with what is there agree with all. -/
def Lf (pre : List Nt) (n : Nt) : Prop := deadN n = true ∨ ∀ x ∈ pre, deadN x = false
theorem ag_more {pre : List Nt} {n : Nt} (hg : agAll pre) (h : ∀ r, mg pre n.1 = some r → agreeN r n = true) (hf : Lf pre n) : agAll (pre ++ [n]) := by
  have key : ∀ x ∈ pre, x.1 = n.1 → agreeN x n = true := fun x hx e => by
    rcases ha : atS pre n.1 with _ | a
    · exact absurd e (at_none.1 ha x hx)
    · obtain ⟨a1, a2⟩ := at_some ha
      have hr := h (if deadAt pre n.1 = true then killN a else a) (by unfold mg; rw [ha]; rfl)
      have hxa := hg x hx a a1 (e.trans a2.symm)
      obtain ⟨x1, x2, x3, x4⟩ := agree_iff.1 hxa
      rcases hf with hf | hf
      · have hz : n.2.2.2 = 0 := by unfold deadN at hf; exact of_decide_eq_true hf
        obtain ⟨r1, r2, r3, r4⟩ := agree_iff.1 hr
        have k1 : (if deadAt pre n.1 = true then killN a else a).2.1 = a.2.1 := by split <;> rfl
        have k2 : (if deadAt pre n.1 = true then killN a else a).2.2.1 = a.2.2.1 := by split <;> rfl
        rw [k1] at r2
        rw [k2] at r3
        exact agree_iff.2 ⟨e, x2.trans r2, x3.trans r3, .inr (.inr hz)⟩
      · have hd : deadAt pre n.1 = false := by
          rw [← Bool.not_eq_true, deadAt_iff]
          rintro ⟨y, hy, -, hz⟩
          rw [hf y hy] at hz
          cases hz
        rw [hd] at hr
        simp only [Bool.false_eq_true, if_false] at hr
        have za : a.2.2.2 ≠ 0 := by have := hf a a1; unfold deadN at this; exact of_decide_eq_false this
        have zx : x.2.2.2 ≠ 0 := by have := hf x hx; unfold deadN at this; exact of_decide_eq_false this
        have hxa2 : x = a := node_ext x1 x2 x3 (by rcases x4 with h | h | h; exact h; exact absurd h zx; exact absurd h za)
        rw [hxa2]; exact hr
  intro a ha b hb e
  simp only [List.mem_append, List.mem_singleton] at ha hb
  rcases ha with ha | rfl <;> rcases hb with hb | rfl
  · exact hg a ha b hb e
  · exact key a ha e
  · rw [agree_comm]; exact key b hb e.symm
  · exact agree_self _
theorem gd_vd {ns pre : List Nt} {n : Nt} (h : Gd ns pre) (hn : validN n = true) : ∀ x ∈ pre ++ [n], validN x = true := fun x hx => by
  simp only [List.mem_append, List.mem_singleton] at hx
  rcases hx with hx | rfl
  · exact h.vd x hx
  · exact hn
theorem gd_new {ns pre : List Nt} {n : Nt} (h : Gd ns pre) (hn : validN n = true) (h0 : atS ns n.1 = none) : Gd (ns ++ [n]) (pre ++ [n]) := by
  have hp : atS pre n.1 = none := by
    have := h.at_ n.1
    rw [h0] at this
    unfold mg at this
    exact Option.map_eq_none_iff.1 this.symm
  have hag : agAll (pre ++ [n]) := by
    intro a ha b hb e
    simp only [List.mem_append, List.mem_singleton] at ha hb
    rcases ha with ha | rfl <;> rcases hb with hb | rfl
    · exact h.ag a ha b hb e
    · exact absurd e (at_none.1 hp a ha)
    · exact absurd e.symm (at_none.1 hp b hb)
    · exact agree_self _
  obtain ⟨g1, g2⟩ := gd_fold h
  obtain ⟨s1, s2, s3⟩ := step_ok g1 (fun d => (g2 d).trans (h.at_ d)) hn hag
  refine ⟨dn_app h.dn h0, hag, gd_vd h hn, fun d => ?_, by have := h.len; simp only [List.length_append, List.length_singleton]; omega⟩
  rw [← s3, put_at (validS_iff.1 g1).2 s1, at_app, g2]
  have hu : upN (foldN pre []) n = n := by unfold upN; rw [g2, h0]
  rw [hu]
  by_cases hd : d = n.1
  · subst hd; rw [h0]; simp
  · rw [if_neg hd, if_neg (fun e => hd e.symm), Option.or_none]
theorem gd_old {ns pre : List Nt} {n : Nt} (h : Gd ns pre) (hn : validN n = true) {k : Nat} (hk : k < ns.length) (e : ns[k].1 = n.1) (hm : (mergeN ns[k] n).2 = 0) (hf : Lf pre n) : Gd (ns.set k (mergeN ns[k] n).1) (pre ++ [n]) ∧ (mergeN ns[k] n).1.1 = ns[k].1 := by
  have ha : atS ns n.1 = some ns[k] := by rw [← e]; exact dn_mem h.dn hk
  have hag : agAll (pre ++ [n]) := ag_more h.ag (fun r hr => by
    rw [← h.at_, ha] at hr
    cases hr
    exact (merge_yes hm).2.2.1) hf
  obtain ⟨g1, g2⟩ := gd_fold h
  obtain ⟨s1, s2, s3⟩ := step_ok g1 (fun d => (g2 d).trans (h.at_ d)) hn hag
  have hd := (merge_dot hm).1
  refine ⟨⟨dn_set h.dn hk hd, hag, gd_vd h hn, fun d => ?_, by have := h.len; simp only [List.length_append, List.length_singleton, List.length_set]; omega⟩, hd⟩
  rw [← s3, put_at (validS_iff.1 g1).2 s1, at_set h.dn hk hd, g2]
  have hu : upN (foldN pre []) n = (mergeN ns[k] n).1 := by unfold upN; rw [g2, ha]
  rw [hu, hd, e]
theorem gd_bad {ns pre : List Nt} {n : Nt} (h : Gd ns pre) (hn : validN n = true) {k : Nat} (hk : k < ns.length) (e : ns[k].1 = n.1) (hm : (mergeN ns[k] n).2 ≠ 0) : (mergeN ns[k] n).2 = 15 ∧ ¬ agAll (pre ++ [n]) := by
  have ha : atS ns n.1 = some ns[k] := by rw [← e]; exact dn_mem h.dn hk
  have hv : validN ns[k] = true := gd_mem h (List.getElem_mem hk)
  constructor
  · unfold mergeN at hm ⊢
    rw [hv, hn] at hm ⊢
    simp only [Bool.and_self, if_true] at hm ⊢
    split
    · rename_i h; rw [if_pos h] at hm; exact absurd rfl hm
    · rfl
  · intro hag
    obtain ⟨g1, g2⟩ := gd_fold h
    obtain ⟨s1, -⟩ := step_ok g1 (fun d => (g2 d).trans (h.at_ d)) hn hag
    unfold putN at s1
    rw [g2, ha] at s1
    simp only [hm, if_false] at s1
/-- The living nodes, then the dead ones. -/
def sideS (l : List Nt) (b : Bool) : List Nt := l.filter fun n => deadN n == b
theorem side_take {l : List Nt} {k : Nat} (hk : k < l.length) (b : Bool) : sideS (l.take (k + 1)) b = if deadN l[k] = b then sideS (l.take k) b ++ [l[k]] else sideS (l.take k) b := by
  have e : l.take (k + 1) = l.take k ++ [l[k]] := by rw [List.take_add_one, List.getElem?_eq_getElem hk]; rfl
  unfold sideS
  rw [e, List.filter_append, List.filter_cons]
  by_cases h : deadN l[k] = b
  · rw [if_pos h, if_pos (by simpa using h)]; rfl
  · rw [if_neg h, if_neg (by simpa using h)]; simp
theorem side_mem {l : List Nt} {b : Bool} {x : Nt} : x ∈ sideS l b ↔ x ∈ l ∧ deadN x = b := by unfold sideS; rw [List.mem_filter]; simp
theorem sides_mem (l : List Nt) (x : Nt) : x ∈ sideS l false ++ sideS l true ↔ x ∈ l := by
  rw [List.mem_append, side_mem, side_mem]
  rcases h : deadN x with _ | _ <;> simp
/-- So far: the nodes of both sides up to k. -/
def preS (l : List Nt) (b : Bool) (k : Nat) : List Nt := if b = true then sideS l false ++ sideS (l.take k) true else sideS (l.take k) false
theorem pre_sub {l : List Nt} {b : Bool} {k : Nat} {x : Nt} (h : x ∈ preS l b k) : x ∈ l := by
  unfold preS at h
  split at h
  · rcases List.mem_append.1 h with h | h
    · exact (side_mem.1 h).1
    · exact List.mem_of_mem_take (side_mem.1 h).1
  · exact List.mem_of_mem_take (side_mem.1 h).1
theorem pre_step {l : List Nt} {b : Bool} {k : Nat} (hk : k < l.length) : preS l b (k + 1) = if deadN l[k] = b then preS l b k ++ [l[k]] else preS l b k := by
  unfold preS
  rcases b with _ | _
  · simp only [Bool.false_eq_true, if_false]; exact side_take hk false
  · simp only [if_true]; rw [side_take hk true]; split
    · rw [List.append_assoc]
    · rfl
theorem pre_lf {l : List Nt} {b : Bool} {k : Nat} {n : Nt} (h : deadN n = b) : Lf (preS l b k) n := by
  rcases b with _ | _
  · right
    intro x hx
    unfold preS at hx
    simp only [Bool.false_eq_true, if_false] at hx
    exact (side_mem.1 hx).2
  · exact .inl h
theorem pre_0 (l : List Nt) : preS l false 0 = [] := rfl
theorem pre_1 (l : List Nt) : preS l true 0 = preS l false l.length := by unfold preS sideS; simp
theorem of_clash {l : List Nt} {p : List Nt} (hv : ∀ x ∈ l, validN x = true) (hs : ∀ x ∈ p, x ∈ l) (h : ¬ agAll p) : ofN l = ([], 15) := by
  have h2 : ¬ agB l = true := fun k => h fun a ha b hb e => agB_iff.1 k a (hs a ha) b (hs b hb) e
  unfold ofN
  rw [if_pos (List.all_eq_true.2 hv), if_neg h2]
theorem of_done {l ns m : List Nt} (h : Gd ns (preS l true l.length)) (hp : m.Perm ns) (hw : m.Pairwise fun a b => less b.1 a.1 = false) : ofN l = (m, 0) := by
  have e : preS l true l.length = sideS l false ++ sideS l true := by unfold preS; simp
  rw [e] at h
  rw [← of_same (sides_mem l), (of_ok h.vd h.ag).1]
  obtain ⟨g1, g2⟩ := gd_fold h
  have hm : DN m := by
    have := h.dn
    unfold DN at *
    exact (hp.map _).nodup_iff.2 this
  have hs : SrtN m := by
    unfold SrtN
    rw [List.pairwise_iff_getElem] at hw ⊢
    intro i j hi hj hij
    rcases hl : less m[i].1 m[j].1 with _ | _
    · have := dn_at hm hi hj (less_tri hl (hw i j hi hj hij))
      omega
    · rfl
  refine Prod.ext (at_ext (validS_iff.1 g1).2 hs fun d => ?_) rfl
  rw [g2]
  rcases hx : atS ns d with _ | x
  · symm
    rw [at_none] at hx ⊢
    exact fun y hy => hx y (hp.mem_iff.1 hy)
  · obtain ⟨h3, rfl⟩ := at_some hx
    exact (at_mem hs (hp.mem_iff.2 h3)).symm
theorem side_len (l : List Nt) (b : Bool) : (sideS l b).length ≤ l.length := List.length_filter_le _ _
theorem pre_len (l : List Nt) (b : Bool) (k : Nat) : (preS l b k).length ≤ l.length + l.length := by
  have h1 := side_len l false
  have h2 := side_len (l.take k) true
  have h3 := side_len (l.take k) false
  have h4 : (l.take k).length ≤ l.length := by rw [List.length_take]; omega
  unfold preS
  split
  · rw [List.length_append]; omega
  · omega
end Go.Proofs.YtgopkffgljiblaaGreat.Qs
end

/-
  Layer 16, plainly: digests, differences.
-/
section
namespace Go.Proofs.YtgopkffgljiblaaGreat.Dg
set_option linter.unusedVariables false
open D Nd Qs Jn

/-- A digest: the context of all dots, and that of the dead ones. -/
abbrev Gt := F.Ct × F.Ct
def validG (d : Gt) : Bool := F.isCompR d.1 && F.isCompR d.2 && F.withinC d.2 d.1
def ofG (l : List Nt) : Gt := (ctxS l false, ctxS l true)
/-- Whether a node is part of the difference. -/
def lackN (d : Gt) (n : Nt) : Bool := !F.hasC d.1 n.1 || (deadN n && !F.hasC d.2 n.1)
def diffG (l : List Nt) (d : Gt) : List Nt := l.filter (lackN d)
def mergeG (a b : Gt) : Gt := (F.unionC a.1 b.1, F.unionC a.2 b.2)
def withinG (a b : Gt) : Bool := F.withinC a.1 b.1 && F.withinC a.2 b.2
theorem comp_vcC {c : F.Ct} (h : F.isCompR c = true) : F.Vc c := (F.comp_iff.1 h).1
theorem valid_parts {d : Gt} (h : validG d = true) : F.isCompR d.1 = true ∧ F.isCompR d.2 = true ∧ ∀ x, F.hasC d.2 x = true → F.hasC d.1 x = true := by
  unfold validG at h
  rw [Bool.and_eq_true, Bool.and_eq_true] at h
  exact ⟨h.1.1, h.1.2, (F.within_iffC (comp_vcC h.1.2) (comp_vcC h.1.1)).1 h.2⟩
theorem valid_mk {d : Gt} (h1 : F.isCompR d.1 = true) (h2 : F.isCompR d.2 = true) (h3 : ∀ x, F.hasC d.2 x = true → F.hasC d.1 x = true) : validG d = true := by
  unfold validG
  rw [h1, h2, (F.within_iffC (comp_vcC h2) (comp_vcC h1)).2 h3]
  rfl

/-! ### The digest of a state -/
theorem ctx_comp {l : List Nt} (h : validS l = true) (dead : Bool) : F.isCompR (ctxS l dead) = true := F.add_comp vc_nil (dots_valid h dead)
theorem all_has {l : List Nt} (h : validS l = true) (d : Dt) : F.hasC (ofG l).1 d = true ↔ atS l d ≠ none := by
  show F.hasC (ctxS l false) d = true ↔ _
  rw [ctx_has h, mem_dots]
  constructor
  · rintro ⟨n, hn, -, e⟩ h0
    exact at_none.1 h0 n hn e
  · intro h0
    rcases hx : atS l d with _ | x
    · exact absurd hx h0
    · exact ⟨x, (at_some hx).1, .inl rfl, (at_some hx).2⟩
theorem gone_has {l : List Nt} (h : validS l = true) (d : Dt) : F.hasC (ofG l).2 d = true ↔ ∃ x, atS l d = some x ∧ x.2.2.2 = 0 := by
  show F.hasC (ctxS l true) d = true ↔ _
  rw [ctx_has h, mem_dots]
  constructor
  · rintro ⟨n, hn, hd, e⟩
    have hd2 : deadN n = true := by
      rcases hd with hd | hd
      · cases hd
      · exact hd
    refine ⟨n, by rw [← e]; exact at_mem (validS_iff.1 h).2 hn, by simpa [deadN] using hd2⟩
  · rintro ⟨x, hx, h0⟩
    exact ⟨x, (at_some hx).1, .inr (by simp [deadN, h0]), (at_some hx).2⟩
theorem of_validG {l : List Nt} (h : validS l = true) : validG (ofG l) = true := valid_mk (ctx_comp h false) (ctx_comp h true) fun x hx => by
  obtain ⟨y, hy, -⟩ := (gone_has h x).1 hx
  exact (all_has h x).2 (by rw [hy]; simp)

/-! ### Differences -/
theorem valid_filterS {l : List Nt} (h : validS l = true) (p : Nt → Bool) : validS (l.filter p) = true := by
  have := validS_iff.1 h
  exact validS_iff.2 ⟨fun x hx => this.1 x ((List.mem_filter.1 hx).1), List.Pairwise.sublist List.filter_sublist this.2⟩
theorem at_filterS {l : List Nt} (h : validS l = true) (p : Nt → Bool) (d : Dt) : atS (l.filter p) d = match atS l d with | none => none | some x => if p x = true then some x else none := by
  have hs := (validS_iff.1 h).2
  have hf := (validS_iff.1 (valid_filterS h p)).2
  rcases hx : atS l d with _ | x
  · rw [at_none]
    intro n hn e
    exact at_none.1 hx n ((List.mem_filter.1 hn).1) e
  · obtain ⟨hm, e⟩ := at_some hx
    by_cases hp : p x = true
    · simp only [hp, if_true]
      rw [← e]
      exact at_mem hf (List.mem_filter.2 ⟨hm, hp⟩)
    · simp only [hp]
      rw [if_neg (by simp), at_none]
      intro n hn e2
      obtain ⟨h1, h2⟩ := List.mem_filter.1 hn
      have h3 := at_mem hs h1
      rw [e2, hx] at h3
      cases h3
      exact hp h2
theorem diff_valid {l : List Nt} (h : validS l = true) (d : Gt) : validS (diffG l d) = true := valid_filterS h _
theorem diff_at {l : List Nt} (h : validS l = true) (d : Gt) (x : Dt) : atS (diffG l d) x = match atS l x with | none => none | some n => if lackN d n = true then some n else none := at_filterS h _ x
theorem diff_ag {a b : List Nt} (ha : validS a = true) (hb : validS b = true) (h : agS a b = true) (d : Gt) : agS b (diffG a d) = true := by
  rw [ag_iff hb (diff_valid ha d)]
  have h1 := (ag_iff ha hb).1 h
  intro x hx y hy e
  have sub : ∀ z, z ∈ b ++ diffG a d → z ∈ a ++ b := fun z hz => by
    rcases List.mem_append.1 hz with k | k
    · exact List.mem_append_right _ k
    · exact List.mem_append_left _ ((List.mem_filter.1 k).1)
  exact h1 x (sub x hx) y (sub y hy) e
/-- A difference against the own digest has no nodes. -/
theorem diff_self {a : List Nt} (ha : validS a = true) : diffG a (ofG a) = [] := by
  unfold diffG
  rw [List.filter_eq_nil_iff]
  intro x hx hl
  have hat := at_mem (validS_iff.1 ha).2 hx
  unfold lackN at hl
  rw [Bool.or_eq_true, Bool.and_eq_true, Bool.not_eq_true', Bool.not_eq_true'] at hl
  rcases hl with h1 | ⟨h1, h2⟩
  · have := (all_has ha x.1).2 (by rw [hat]; simp)
    rw [h1] at this
    cases this
  · have := (gone_has ha x.1).2 ⟨x, hat, by simpa [deadN] using h1⟩
    rw [h2] at this
    cases this
theorem lack_of {b : List Nt} (hb : validS b = true) (x : Nt) : lackN (ofG b) x = true ↔ atS b x.1 = none ∨ (x.2.2.2 = 0 ∧ ∀ y, atS b x.1 = some y → y.2.2.2 ≠ 0) := by
  unfold lackN
  rw [Bool.or_eq_true, Bool.and_eq_true, Bool.not_eq_true', Bool.not_eq_true', ← Bool.not_eq_true, ← Bool.not_eq_true, all_has hb, gone_has hb]
  constructor
  · rintro (h | ⟨h1, h2⟩)
    · exact .inl (by simpa using h)
    · exact .inr ⟨by simpa [deadN] using h1, fun y hy h0 => h2 ⟨y, hy, h0⟩⟩
  · rintro (h | ⟨h1, h2⟩)
    · exact .inl (by simpa using h)
    · exact .inr ⟨by simp [deadN, h1], fun ⟨y, hy, h0⟩ => h2 y hy h0⟩
/-- What an alive node and an alive node of the same dot are, where the states agree. -/
theorem alive_eq {x y : Nt} (h : agreeN x y = true) (hx : x.2.2.2 ≠ 0) (hy : y.2.2.2 ≠ 0) : x = y := by
  obtain ⟨h1, h2, h3, h4⟩ := agree_iff.1 h
  have h5 : x.2.2.2 = y.2.2.2 := by
    rcases h4 with h4 | h4 | h4
    · exact h4
    · exact absurd h4 hx
    · exact absurd h4 hy
  exact Prod.ext h1 (Prod.ext h2 (Prod.ext h3 h5))
theorem ag_at {a b : List Nt} (ha : validS a = true) (hb : validS b = true) (h : agS a b = true) {d : Dt} {x y : Nt} (hx : atS a d = some x) (hy : atS b d = some y) : agreeN x y = true :=
  (ag_iff ha hb).1 h x (List.mem_append_left _ (at_some hx).1) y (List.mem_append_right _ (at_some hy).1) ((at_some hx).2.trans (at_some hy).2.symm)
/-- Joining the difference gives the same as joining all. -/
theorem diff_join {a b : List Nt} (ha : validS a = true) (hb : validS b = true) (h : agS a b = true) : joinL b (diffG a (ofG b)) = joinL a b := by
  have hd := diff_valid ha (ofG b)
  have hg := diff_ag ha hb h (ofG b)
  refine at_ext (validS_iff.1 (join_valid hb hd hg)).2 (validS_iff.1 (join_valid ha hb h)).2 fun d => ?_
  rw [join_at hb hd hg, join_at ha hb h, diff_at ha]
  rcases hy : atS b d with _ | y <;> rcases hx : atS a d with _ | x
  · rfl
  · have : lackN (ofG b) x = true := (lack_of hb x).2 (.inl (by rw [(at_some hx).2]; exact hy))
    simp only [this, if_true]
  · rfl
  · have e := (at_some hx).2
    by_cases hl : lackN (ofG b) x = true
    · rcases (lack_of hb x).1 hl with h1 | ⟨h1, h2⟩
      · rw [e, hy] at h1; cases h1
      · simp only [hl, if_true]
        rw [if_pos h1, if_neg (h2 y (by rw [e]; exact hy))]
    · simp only [hl]
      by_cases hy0 : y.2.2.2 = 0
      · simp [hy0]
      · have hx0 : x.2.2.2 ≠ 0 := fun h0 => hl ((lack_of hb x).2 (.inr ⟨h0, fun z hz => by rw [e, hy] at hz; cases hz; exact hy0⟩))
        rw [alive_eq (ag_at ha hb h hx hy) hx0 hy0]
        simp
/-- A difference is within the state that it was taken of. -/
theorem diff_in {a : List Nt} (ha : validS a = true) (d : Gt) : agS (diffG a d) a = true ∧ joinL (diffG a d) a = a := by
  have hd := diff_valid ha d
  have hg : agS (diffG a d) a = true := by
    rw [ag_comm hd ha]
    exact diff_ag ha ha (self_agS ha) d
  refine ⟨hg, at_ext (validS_iff.1 (join_valid hd ha hg)).2 (validS_iff.1 ha).2 fun x => ?_⟩
  rw [join_at hd ha hg, diff_at ha]
  rcases hx : atS a x with _ | y
  · rfl
  · by_cases hl : lackN d y = true
    · simp only [hl, if_true]; split <;> rfl
    · simp [hl]
/-! ### Together, and within -/
theorem merge_all {a b : Gt} (ha : validG a = true) (hb : validG b = true) (x : Dt) : F.hasC (mergeG a b).1 x = (F.hasC a.1 x || F.hasC b.1 x) := F.union_has (comp_vcC (valid_parts ha).1) (comp_vcC (valid_parts hb).1) x
theorem merge_gone {a b : Gt} (ha : validG a = true) (hb : validG b = true) (x : Dt) : F.hasC (mergeG a b).2 x = (F.hasC a.2 x || F.hasC b.2 x) := F.union_has (comp_vcC (valid_parts ha).2.1) (comp_vcC (valid_parts hb).2.1) x
theorem merge_valid {a b : Gt} (ha : validG a = true) (hb : validG b = true) : validG (mergeG a b) = true := by
  obtain ⟨a1, a2, a3⟩ := valid_parts ha
  obtain ⟨b1, b2, b3⟩ := valid_parts hb
  refine valid_mk (F.union_comp (comp_vcC a1) (comp_vcC b1)) (F.union_comp (comp_vcC a2) (comp_vcC b2)) fun x hx => ?_
  rw [merge_gone ha hb, Bool.or_eq_true] at hx
  rw [merge_all ha hb, Bool.or_eq_true]
  exact hx.imp (a3 x) (b3 x)
theorem within_iffG {a b : Gt} (ha : validG a = true) (hb : validG b = true) : withinG a b = true ↔ (∀ x, F.hasC a.1 x = true → F.hasC b.1 x = true) ∧ ∀ x, F.hasC a.2 x = true → F.hasC b.2 x = true := by
  obtain ⟨a1, a2, -⟩ := valid_parts ha
  obtain ⟨b1, b2, -⟩ := valid_parts hb
  unfold withinG
  rw [Bool.and_eq_true, F.within_iffC (comp_vcC a1) (comp_vcC b1), F.within_iffC (comp_vcC a2) (comp_vcC b2)]
theorem bool_ext {p q : Bool} (h : p = true ↔ q = true) : p = q := by
  cases p <;> cases q <;> simp_all
/-- The digest of a join. -/
theorem of_join {a b : List Nt} (ha : validS a = true) (hb : validS b = true) (h : agS a b = true) : ofG (joinL a b) = mergeG (ofG a) (ofG b) := by
  have hj := join_valid ha hb h
  have vj := of_validG hj
  have vm := merge_valid (of_validG ha) (of_validG hb)
  refine Prod.ext (F.comp_uniq (valid_parts vj).1 (valid_parts vm).1 fun d => bool_ext ?_) (F.comp_uniq (valid_parts vj).2.1 (valid_parts vm).2.1 fun d => bool_ext ?_)
  · rw [merge_all (of_validG ha) (of_validG hb), Bool.or_eq_true, all_has hj, all_has ha, all_has hb, join_at ha hb h]
    rcases atS a d with _ | x <;> rcases atS b d with _ | y <;> simp
  · rw [merge_gone (of_validG ha) (of_validG hb), Bool.or_eq_true, gone_has hj, gone_has ha, gone_has hb, join_at ha hb h]
    rcases hx : atS a d with _ | x <;> rcases hy : atS b d with _ | y
    · simp
    · simp
    · simp
    · constructor
      · rintro ⟨z, hz, h0⟩
        simp only [Option.some.injEq] at hz
        by_cases hy0 : y.2.2.2 = 0
        · exact .inr ⟨y, rfl, hy0⟩
        · rw [if_neg hy0] at hz
          subst hz
          exact .inl ⟨x, rfl, h0⟩
      · rintro (⟨z, hz, h0⟩ | ⟨z, hz, h0⟩) <;> cases hz
        · refine ⟨_, rfl, ?_⟩
          split
          · assumption
          · exact h0
        · exact ⟨_, rfl, by rw [if_pos h0]; exact h0⟩
/-- Within, for states that agree, is within for their digests. -/
theorem in_iff {a b : List Nt} (ha : validS a = true) (hb : validS b = true) (h : agS a b = true) : decide (joinL a b = b) = withinG (ofG a) (ofG b) := by
  refine bool_ext ?_
  rw [decide_eq_true_eq, within_iffG (of_validG ha) (of_validG hb)]
  constructor
  · intro e
    constructor
    · intro d hd
      rw [all_has ha] at hd
      rw [all_has hb]
      have h1 := join_at ha hb h d
      rw [e] at h1
      rcases hx : atS a d with _ | x
      · exact absurd hx hd
      · rw [hx] at h1
        rcases hy : atS b d with _ | y
        · rw [hy] at h1; cases h1
        · simp
    · intro d hd
      obtain ⟨x, hx, h0⟩ := (gone_has ha d).1 hd
      rw [gone_has hb]
      have h1 := join_at ha hb h d
      rw [e, hx] at h1
      rcases hy : atS b d with _ | y
      · rw [hy] at h1; cases h1
      · rw [hy] at h1
        simp only [Option.some.injEq] at h1
        refine ⟨y, rfl, ?_⟩
        by_cases hy0 : y.2.2.2 = 0
        · exact hy0
        · rw [if_neg hy0] at h1
          rw [h1]; exact h0
  · rintro ⟨h1, h2⟩
    refine at_ext (validS_iff.1 (join_valid ha hb h)).2 (validS_iff.1 hb).2 fun d => ?_
    rw [join_at ha hb h]
    rcases hx : atS a d with _ | x
    · rfl
    · rcases hy : atS b d with _ | y
      · exact absurd hy ((all_has hb d).1 (h1 d ((all_has ha d).2 (by rw [hx]; simp))))
      · by_cases hy0 : y.2.2.2 = 0
        · simp [hy0]
        · by_cases hx0 : x.2.2.2 = 0
          · obtain ⟨z, hz, h0⟩ := (gone_has hb d).1 (h2 d ((gone_has ha d).2 ⟨x, hx, hx0⟩))
            rw [hy] at hz
            cases hz
            exact absurd h0 hy0
          · simp only [hy0, if_false]
            rw [alive_eq (ag_at ha hb h hx hy) hx0 hy0]
end Go.Proofs.YtgopkffgljiblaaGreat.Dg
end

/-
  Layer 16, plainly: what the reference reckons.
-/
section
namespace Go.Proofs.YtgopkffgljiblaaGreat.Dg
set_option linter.unusedVariables false
open D Nd Qs Jn

/-! ### Has -/
def hasR (c : F.Ct) (d : Dt) : Bool := decide (d.2 ≤ E.getV c.1 d.1) || decide (d ∈ c.2)
theorem hasR_eq {c : F.Ct} {d : Dt} (hd : validR d = true) : hasR c d = F.hasC c d := by
  unfold hasR F.hasC E.hasV
  rw [hd]
  rfl
theorem getV_top {v : List Dt} (hv : E.Vd v) (r : Int) : E.getV v r ≤ 4294967295 := by
  by_cases h : 0 < E.getV v r
  · have := valid_iff.1 (hv.1 _ (E.get_pos hv h))
    exact this.2.2.2
  · omega
theorem hasR_eq2 {c : F.Ct} (hc : F.Vc c) {r k : Int} (h1 : 1 ≤ r) (h2 : r ≤ 64) (hk : 1 ≤ k) : hasR c (r, k) = F.hasC c (r, k) := by
  by_cases h : k ≤ 4294967295
  · exact hasR_eq (valid_iff.2 (by show 0 < r ∧ r ≤ 64 ∧ 0 < k ∧ k ≤ 4294967295; omega))
  · have hv : validR (r, k) = false := by
      rw [← Bool.not_eq_true, valid_iff]
      show ¬ (0 < r ∧ r ≤ 64 ∧ 0 < k ∧ k ≤ 4294967295)
      omega
    have h3 : F.hasC c (r, k) = false := by unfold F.hasC; rw [hv]; rfl
    rw [h3]
    unfold hasR
    rw [Bool.or_eq_false_iff, decide_eq_false_iff_not, decide_eq_false_iff_not]
    constructor
    · have := getV_top hc.1 r
      show ¬ k ≤ E.getV c.1 r
      omega
    · intro hm
      rw [hc.2.2 _ hm] at hv
      cases hv
theorem hasC_below {c : F.Ct} (hc : F.Vc c) {r k : Int} (h1 : 1 ≤ r) (h2 : r ≤ 64) (hk : 1 ≤ k) (h : k ≤ E.getV c.1 r) : F.hasC c (r, k) = true := by
  have ht := getV_top hc.1 r
  have hv : validR (r, k) = true := valid_iff.2 (by show 0 < r ∧ r ≤ 64 ∧ 0 < k ∧ k ≤ 4294967295; omega)
  rw [F.hasC_iff]
  exact ⟨hv, .inl (F.hasV_iff.2 ⟨hv, h⟩)⟩
/-- Going up: the next dot is there just if the vector goes further. -/
theorem climb {c : F.Ct} (hc : F.isCompR c = true) {r n : Int} (h1 : 1 ≤ r) (h2 : r ≤ 64) (h0 : 0 ≤ n) (hn : n ≤ E.getV c.1 r) : F.hasC c (r, n + 1) = true ↔ n < E.getV c.1 r := by
  obtain ⟨hv, hg⟩ := F.comp_iff.1 hc
  constructor
  · intro h
    obtain ⟨-, h | h⟩ := F.hasC_iff.1 h
    · have := (F.hasV_iff.1 h).2
      show n < _
      have h3 : n + 1 ≤ E.getV c.1 r := this
      omega
    · have h3 : E.getV c.1 r + 1 < n + 1 := hg _ h
      omega
  · intro h
    exact hasC_below hv h1 h2 (by omega) (by omega)
/-- Behind the end of the vector a compact context has a gap. -/
theorem gap {c : F.Ct} (hc : F.isCompR c = true) (r : Int) : hasR c (r, E.getV c.1 r + 1) = false := by
  obtain ⟨hv, hg⟩ := F.comp_iff.1 hc
  unfold hasR
  rw [Bool.or_eq_false_iff, decide_eq_false_iff_not, decide_eq_false_iff_not]
  constructor
  · show ¬ E.getV c.1 r + 1 ≤ E.getV c.1 r
    omega
  · intro h
    have h3 : E.getV c.1 r + 1 < E.getV c.1 r + 1 := hg _ h
    omega

/-! ### Vectors, replica by replica -/
def vecK (v : List Dt) (k : Nat) : List Dt := (List.range k).filterMap fun (i : Nat) => if 0 < E.getV v ((i : Int) + 1) then some ((i : Int) + 1, E.getV v ((i : Int) + 1)) else none
theorem vecK_zero (v : List Dt) : vecK v 0 = [] := rfl
theorem vecK_step (v : List Dt) (k : Nat) : vecK v (k + 1) = if 0 < E.getV v ((k : Int) + 1) then vecK v k ++ [((k : Int) + 1, E.getV v ((k : Int) + 1))] else vecK v k := by
  unfold vecK
  rw [List.range_succ, List.filterMap_append]
  by_cases h : 0 < E.getV v ((k : Int) + 1)
  · simp [h]
  · simp [h]
theorem vecK_mem {v : List Dt} {k : Nat} {x : Dt} : x ∈ vecK v k ↔ 1 ≤ x.1 ∧ x.1 ≤ (k : Int) ∧ 0 < E.getV v x.1 ∧ x.2 = E.getV v x.1 := by
  unfold vecK
  rw [List.mem_filterMap]
  constructor
  · rintro ⟨i, hi, e⟩
    have hi2 := List.mem_range.1 hi
    split at e
    · rename_i h
      cases e
      exact ⟨by show 1 ≤ (i : Int) + 1; omega, by show (i : Int) + 1 ≤ k; omega, h, rfl⟩
    · cases e
  · rintro ⟨h1, h2, h3, h4⟩
    refine ⟨(x.1 - 1).toNat, List.mem_range.2 (by omega), ?_⟩
    have e : (((x.1 - 1).toNat : Nat) : Int) + 1 = x.1 := by omega
    rw [e, if_pos h3, ← h4]
theorem vecK_inc (v : List Dt) (k : Nat) : E.Inc (vecK v k) := by
  unfold E.Inc vecK
  rw [List.pairwise_filterMap]
  refine List.Pairwise.imp ?_ (List.pairwise_lt_range (n := k))
  intro a b hab x hx y hy
  split at hx
  · split at hy
    · cases hx
      cases hy
      show (a : Int) + 1 < (b : Int) + 1
      omega
    · cases hy
  · cases hx
theorem vecK_all {v : List Dt} (hv : E.Vd v) : vecK v 64 = v := E.inc_ext (vecK_inc v 64) hv.2 fun x => by
  rw [vecK_mem, E.get_mem hv]
  constructor
  · rintro ⟨-, -, h3, h4⟩
    exact ⟨by omega, h4.symm⟩
  · rintro ⟨h1, h2⟩
    have hx : x ∈ v := (E.get_mem hv).2 ⟨h1, h2⟩
    have := valid_iff.1 (hv.1 x hx)
    exact ⟨by omega, by omega, by omega, h2.symm⟩
theorem vecK_get {v : List Dt} {k : Nat} {r : Int} : E.getV (vecK v k) r = if 1 ≤ r ∧ r ≤ (k : Int) ∧ 0 < E.getV v r then E.getV v r else 0 := by
  split
  · rename_i h
    have hm : ((r, E.getV v r) : Dt) ∈ vecK v k := vecK_mem.2 ⟨h.1, h.2.1, h.2.2, rfl⟩
    exact E.get_some (vecK_inc v k) hm
  · rename_i h
    refine E.get_none fun x hx e => h ?_
    obtain ⟨h1, h2, h3, -⟩ := vecK_mem.1 hx
    rw [e] at h1 h2 h3
    exact ⟨h1, h2, h3⟩

/-! ### The context of dots in order -/
def cntR (r : Int) (n : Int) (x : Dt) : Int := if x.1 = r ∧ x.2 = n + 1 then n + 1 else n
theorem cnt_all (r G : Int) : ∀ (t : List Dt) (n : Int), Srt t → n ≤ G → (∀ k, n < k → k ≤ G → ((r, k) : Dt) ∈ t) → ((r, G + 1) : Dt) ∉ t → t.foldl (cntR r) n = G
  | [], n, _, h1, h2, _ => by
    show n = G
    by_cases h : n < G
    · exact absurd (h2 (n + 1) (by omega) (by omega)) (by simp)
    · omega
  | x :: t, n, hs, h1, h2, h3 => by
    have hs2 := List.pairwise_cons.1 hs
    rw [List.foldl_cons]
    unfold cntR
    by_cases hx : x.1 = r ∧ x.2 = n + 1
    · rw [if_pos hx]
      have hxe : x = (r, n + 1) := Prod.ext hx.1 hx.2
      have hlt : n < G := by
        by_cases h : n = G
        · exact absurd (by rw [hxe, h]; simp) h3
        · omega
      refine cnt_all r G t (n + 1) hs2.2 (by omega) (fun k hk1 hk2 => ?_) (fun h => h3 (by simp [h]))
      rcases List.mem_cons.1 (h2 k (by omega) hk2) with h | h
      · rw [hxe] at h
        have : k = n + 1 := congrArg Prod.snd h
        omega
      · exact h
    · rw [if_neg hx]
      refine cnt_all r G t n hs2.2 h1 (fun k hk1 hk2 => ?_) (fun h => h3 (by simp [h]))
      rcases List.mem_cons.1 (h2 k hk1 hk2) with h | h
      · exfalso
        have hne : k ≠ n + 1 := fun e => hx (by rw [← h, e]; exact ⟨rfl, rfl⟩)
        rcases List.mem_cons.1 (h2 (n + 1) (by omega) (by omega)) with h4 | h4
        · rw [← h] at h4
          have : n + 1 = k := congrArg Prod.snd h4
          omega
        · have := hs2.1 _ h4
          rw [← h, less_iff] at this
          have h5 : k < n + 1 ∨ (k = n + 1 ∧ r < r) := this
          omega
      · exact h
/-- How far the dots of a replica go in the context of a store. -/
theorem cnt_ctx {l : List Nt} (hl : validS l = true) (dead : Bool) {r : Int} (h1 : 1 ≤ r) (h2 : r ≤ 64) : (dotsS l dead).foldl (cntR r) 0 = E.getV (ctxS l dead).1 r := by
  have hc := ctx_comp hl dead
  have hv := comp_vcC hc
  refine cnt_all r _ _ _ (srt_dots (validS_iff.1 hl).2 dead) (E.get_ge hv.1 r) (fun k hk1 hk2 => ?_) fun h => ?_
  · rw [← ctx_has hl]
    exact hasC_below hv h1 h2 (by omega) hk2
  · rw [← ctx_has hl, climb hc h1 h2 (E.get_ge hv.1 r) (Int.le_refl _)] at h
    omega
theorem cloud_ctx {l : List Nt} (hl : validS l = true) (dead : Bool) : (dotsS l dead).filter (fun x => decide (E.getV (ctxS l dead).1 x.1 < x.2)) = (ctxS l dead).2 := by
  have hc := ctx_comp hl dead
  obtain ⟨hv, hg⟩ := F.comp_iff.1 hc
  refine srt_ext (List.Pairwise.sublist List.filter_sublist (srt_dots (validS_iff.1 hl).2 dead)) hv.2.1 fun x => ?_
  rw [List.mem_filter, ← ctx_has hl, F.hasC_iff, decide_eq_true_eq]
  constructor
  · rintro ⟨⟨-, h | h⟩, h2⟩
    · have := (F.hasV_iff.1 h).2
      omega
    · exact h
  · intro h
    have := hg x h
    exact ⟨⟨hv.2.2 x h, .inr h⟩, by omega⟩

/-! ### Within -/
theorem within_eq {a b : F.Ct} (ha : F.isCompR a = true) (hb : F.isCompR b = true) : F.withinC a b = ((a.1.all fun x => decide (x.2 ≤ E.getV b.1 x.1)) && a.2.all (hasR b)) := by
  have va := comp_vcC ha
  unfold F.withinC
  rw [F.comp_self hb, Bool.and_comm]
  congr 1
  · unfold E.withinV
    refine bool_ext ?_
    rw [List.all_eq_true, List.all_eq_true]
    constructor
    · intro h x hx
      exact decide_eq_true (F.hasV_iff.1 (h x hx)).2
    · intro h x hx
      exact F.hasV_iff.2 ⟨va.1.1 x hx, of_decide_eq_true (h x hx)⟩
  · refine bool_ext ?_
    rw [List.all_eq_true, List.all_eq_true]
    constructor
    · intro h x hx
      rw [hasR_eq (va.2.2 x hx)]
      exact h x hx
    · intro h x hx
      rw [← hasR_eq (va.2.2 x hx)]
      exact h x hx

/-! ### The union -/
theorem union_above {a b : F.Ct} (ha : F.isCompR a = true) (hb : F.isCompR b = true) (r : Int) : max (E.getV a.1 r) (E.getV b.1 r) ≤ E.getV (F.unionC a b).1 r := by
  have hu := F.union_comp (comp_vcC ha) (comp_vcC hb)
  have h1 := F.comp_get ha hu (fun x hx => by rw [F.union_has (comp_vcC ha) (comp_vcC hb), hx]; rfl) r
  have h2 := F.comp_get hb hu (fun x hx => by rw [F.union_has (comp_vcC ha) (comp_vcC hb), hx, Bool.or_true]) r
  omega
theorem climbU {a b : F.Ct} (ha : F.isCompR a = true) (hb : F.isCompR b = true) {r n : Int} (h1 : 1 ≤ r) (h2 : r ≤ 64) (h0 : 0 ≤ n) (hn : n ≤ E.getV (F.unionC a b).1 r) : (hasR a (r, n + 1) || hasR b (r, n + 1)) = true ↔ n < E.getV (F.unionC a b).1 r := by
  have hu := F.union_comp (comp_vcC ha) (comp_vcC hb)
  rw [hasR_eq2 (comp_vcC ha) h1 h2 (by omega), hasR_eq2 (comp_vcC hb) h1 h2 (by omega), ← F.union_has (comp_vcC ha) (comp_vcC hb)]
  exact climb hu h1 h2 h0 hn
/-- One dot of the clouds more. -/
def stepU (v cl : List Dt) (x : Dt) : List Dt := if hasR (v, cl) x = true then cl else ins cl x
theorem foldU_srt (v : List Dt) : ∀ (t cl : List Dt), Srt cl → Srt (t.foldl (stepU v) cl)
  | [], _, h => h
  | x :: t, cl, h => by
    rw [List.foldl_cons]
    refine foldU_srt v t _ ?_
    unfold stepU
    split
    · exact h
    · exact srt_ins h x
theorem foldU_mem (v : List Dt) : ∀ (t cl : List Dt) (y : Dt), y ∈ t.foldl (stepU v) cl ↔ y ∈ cl ∨ (y ∈ t ∧ E.getV v y.1 < y.2)
  | [], cl, y => by simp
  | x :: t, cl, y => by
    rw [List.foldl_cons, foldU_mem v t]
    unfold stepU hasR
    by_cases h : (decide (x.2 ≤ E.getV v x.1) || decide (x ∈ cl)) = true
    · rw [if_pos h]
      rw [Bool.or_eq_true, decide_eq_true_eq, decide_eq_true_eq] at h
      constructor
      · rintro (k | ⟨k1, k2⟩)
        · exact .inl k
        · exact .inr ⟨List.mem_cons_of_mem _ k1, k2⟩
      · rintro (k | ⟨k1, k2⟩)
        · exact .inl k
        · rcases List.mem_cons.1 k1 with e | k1
          · subst e
            rcases h with h | h
            · omega
            · exact .inl h
          · exact .inr ⟨k1, k2⟩
    · rw [if_neg h]
      rw [Bool.or_eq_true, decide_eq_true_eq, decide_eq_true_eq] at h
      rw [mem_ins]
      constructor
      · rintro ((k | k) | ⟨k1, k2⟩)
        · exact .inl k
        · subst k
          exact .inr ⟨by simp, by by_cases h3 : y.2 ≤ E.getV v y.1; exact absurd (.inl h3) h; omega⟩
        · exact .inr ⟨List.mem_cons_of_mem _ k1, k2⟩
      · rintro (k | ⟨k1, k2⟩)
        · exact .inl (.inl k)
        · rcases List.mem_cons.1 k1 with e | k1
          · exact .inl (.inr e)
          · exact .inr ⟨k1, k2⟩
theorem foldU_end {a b : F.Ct} (ha : F.isCompR a = true) (hb : F.isCompR b = true) : (a.2 ++ b.2).foldl (stepU (F.unionC a b).1) [] = (F.unionC a b).2 := by
  have va := comp_vcC ha
  have vb := comp_vcC hb
  obtain ⟨vu, gu⟩ := F.comp_iff.1 (F.union_comp va vb)
  have hab := union_above ha hb
  refine srt_ext (foldU_srt _ _ _ List.Pairwise.nil) vu.2.1 fun y => ?_
  rw [foldU_mem]
  constructor
  · rintro (k | ⟨k1, k2⟩)
    · cases k
    · have hv : validR y = true := by
        rcases List.mem_append.1 k1 with k | k
        · exact va.2.2 y k
        · exact vb.2.2 y k
      have hc : F.hasC (F.unionC a b) y = true := by
        rw [F.union_has va vb, Bool.or_eq_true]
        rcases List.mem_append.1 k1 with k | k
        · exact .inl (F.hasC_iff.2 ⟨hv, .inr k⟩)
        · exact .inr (F.hasC_iff.2 ⟨hv, .inr k⟩)
      rcases (F.hasC_iff.1 hc).2 with h | h
      · have := (F.hasV_iff.1 h).2
        omega
      · exact h
  · intro h
    have hg := gu y h
    refine .inr ⟨?_, by omega⟩
    have hc : F.hasC (F.unionC a b) y = true := F.hasC_iff.2 ⟨vu.2.2 y h, .inr h⟩
    rw [F.union_has va vb, Bool.or_eq_true] at hc
    have hm := hab y.1
    rw [List.mem_append]
    rcases hc with hc | hc
    · rcases (F.hasC_iff.1 hc).2 with k | k
      · have := (F.hasV_iff.1 k).2
        omega
      · exact .inl k
    · rcases (F.hasC_iff.1 hc).2 with k | k
      · have := (F.hasV_iff.1 k).2
        omega
      · exact .inr k
/-! ### The difference -/
theorem diff_ref {l : List Nt} (hl : validS l = true) (d : Gt) : l.filter (fun n => !hasR d.1 n.1 || (deadN n && !hasR d.2 n.1)) = diffG l d := by
  unfold diffG
  refine List.filter_congr fun n hn => ?_
  have hv : validR n.1 = true := (valid_vn.1 ((validS_iff.1 hl).1 n hn)).1
  unfold lackN
  rw [hasR_eq hv, hasR_eq hv]
end Go.Proofs.YtgopkffgljiblaaGreat.Dg
end
