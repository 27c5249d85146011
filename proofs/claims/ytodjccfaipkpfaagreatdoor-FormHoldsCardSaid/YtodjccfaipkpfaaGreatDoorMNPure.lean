/-
  Nodes, plainly: which are valid, which stand before others, which agree, what they are merged to.
-/
import Derived.Test.YtodjccfaipkpfaaGreatDoorMDText
import Derived.Test.YtodjccfaipkpfaaGreatDoorRHex

section
namespace Go.Proofs.YtodjccfaipkpfaaGreatDoor.Nd
set_option linter.unusedVariables false
open D

/-- A node: its dot, its parent, its time, its rune. -/
abbrev Nt := Dt × Dt × Int × Int
def zeroN : Nt := ((0, 0), (0, 0), 0, 0)
def validN (n : Nt) : Bool := validR n.1 && (rootR n.2.1 || validR n.2.1) && !decide (n.2.1 = n.1) && decide (1 ≤ n.2.2.1) && decide (n.2.2.1 ≤ 4611686018427387904) && (decide (n.2.2.2 = 0) || R.vld n.2.2.2)
def VN (n : Nt) : Prop := validR n.1 = true ∧ named n.2.1 ∧ n.2.1 ≠ n.1 ∧ 1 ≤ n.2.2.1 ∧ n.2.2.1 ≤ 4611686018427387904 ∧ (n.2.2.2 = 0 ∨ R.vld n.2.2.2 = true)
theorem valid_vn {n : Nt} : validN n = true ↔ VN n := by
  unfold validN VN named
  simp only [Bool.and_eq_true, Bool.or_eq_true, Bool.not_eq_true', decide_eq_true_eq, decide_eq_false_iff_not]
  constructor
  · rintro ⟨⟨⟨⟨⟨h1, h2⟩, h3⟩, h4⟩, h5⟩, h6⟩
    exact ⟨h1, h2.symm, h3, h4, h5, h6⟩
  · rintro ⟨h1, h2, h3, h4, h5, h6⟩
    exact ⟨⟨⟨⟨⟨h1, h2.symm⟩, h3⟩, h4⟩, h5⟩, h6⟩
def killN (n : Nt) : Nt := (n.1, n.2.1, n.2.2.1, 0)
def deadN (n : Nt) : Bool := decide (n.2.2.2 = 0)
def beforeN (a b : Nt) : Bool := if a.2.2.1 = b.2.2.1 then less b.1 a.1 else decide (b.2.2.1 < a.2.2.1)
def agreeN (a b : Nt) : Bool := decide (a.1 = b.1) && decide (a.2.1 = b.2.1) && decide (a.2.2.1 = b.2.2.1) && (decide (a.2.2.2 = b.2.2.2) || decide (a.2.2.2 = 0) || decide (b.2.2.2 = 0))
def mergeN (a b : Nt) : Nt × Int := if (validN a && validN b) = true then (if agreeN a b = true then (if b.2.2.2 = 0 then b else a, 0) else (zeroN, 15)) else (zeroN, 2)
theorem agree_iff {a b : Nt} : agreeN a b = true ↔ a.1 = b.1 ∧ a.2.1 = b.2.1 ∧ a.2.2.1 = b.2.2.1 ∧ (a.2.2.2 = b.2.2.2 ∨ a.2.2.2 = 0 ∨ b.2.2.2 = 0) := by
  unfold agreeN
  simp only [Bool.and_eq_true, Bool.or_eq_true, decide_eq_true_eq]
  constructor
  · rintro ⟨⟨⟨h1, h2⟩, h3⟩, (h4 | h4) | h4⟩
    · exact ⟨h1, h2, h3, .inl h4⟩
    · exact ⟨h1, h2, h3, .inr (.inl h4)⟩
    · exact ⟨h1, h2, h3, .inr (.inr h4)⟩
  · rintro ⟨h1, h2, h3, h4 | h4 | h4⟩
    · exact ⟨⟨⟨h1, h2⟩, h3⟩, .inl (.inl h4)⟩
    · exact ⟨⟨⟨h1, h2⟩, h3⟩, .inl (.inr h4)⟩
    · exact ⟨⟨⟨h1, h2⟩, h3⟩, .inr h4⟩
theorem node_ext {a b : Nt} (h1 : a.1 = b.1) (h2 : a.2.1 = b.2.1) (h3 : a.2.2.1 = b.2.2.1) (h4 : a.2.2.2 = b.2.2.2) : a = b := Prod.ext h1 (Prod.ext h2 (Prod.ext h3 h4))

/-! ### Before -/
theorem before_iff {a b : Nt} : beforeN a b = true ↔ b.2.2.1 < a.2.2.1 ∨ (a.2.2.1 = b.2.2.1 ∧ less b.1 a.1 = true) := by
  unfold beforeN
  split
  · rename_i h
    exact ⟨fun k => .inr ⟨h, k⟩, fun k => k.elim (fun k => absurd h (by omega)) (·.2)⟩
  · rename_i h
    rw [decide_eq_true_eq]
    exact ⟨.inl, fun k => k.elim id fun k => absurd k.1 h⟩
theorem before_irr (a : Nt) : beforeN a a = false := by
  rw [← Bool.not_eq_true, before_iff]
  rintro (h | ⟨_, h⟩)
  · omega
  · rw [less_irr] at h; cases h
theorem before_trans {a b c : Nt} (h : beforeN a b = true) (k : beforeN b c = true) : beforeN a c = true := by
  rw [before_iff] at *
  rcases h with h | ⟨h1, h2⟩ <;> rcases k with k | ⟨k1, k2⟩
  · left; omega
  · left; omega
  · left; omega
  · right; exact ⟨by omega, less_trans k2 h2⟩
theorem before_asymm {a b : Nt} (h : beforeN a b = true) : beforeN b a = false := by
  rw [← Bool.not_eq_true]
  intro k
  have := before_trans h k
  rw [before_irr] at this; cases this
/-- Of two nodes with different times or dots just one stands before the other one. -/
theorem before_one (a b : Nt) : (beforeN a b || beforeN b a) = (!decide (a.2.2.1 = b.2.2.1) || !decide (a.1 = b.1)) := by
  rw [Bool.eq_iff_iff]
  simp only [Bool.or_eq_true, before_iff, Bool.not_eq_true', decide_eq_false_iff_not]
  constructor
  · rintro ((h | ⟨h1, h2⟩) | (h | ⟨h1, h2⟩))
    · left; omega
    · right; exact fun e => less_ne h2 e.symm
    · left; omega
    · right; exact fun e => less_ne h2 e
  · intro h
    by_cases ht : a.2.2.1 = b.2.2.1
    · have hd : a.1 ≠ b.1 := h.elim (fun k => absurd ht k) id
      rcases h1 : less b.1 a.1 with _ | _
      · rcases h2 : less a.1 b.1 with _ | _
        · exact absurd (less_tri h2 h1) hd
        · exact .inr (.inr ⟨ht.symm, rfl⟩)
      · exact .inl (.inr ⟨ht, rfl⟩)
    · rcases Int.lt_or_lt_of_ne ht with k | k
      · exact .inr (.inl k)
      · exact .inl (.inl k)

/-! ### Merge -/
theorem agree_comm (a b : Nt) : agreeN a b = agreeN b a := by
  rw [Bool.eq_iff_iff, agree_iff, agree_iff]
  constructor
  · rintro ⟨h1, h2, h3, h4⟩
    exact ⟨h1.symm, h2.symm, h3.symm, h4.elim (fun h => .inl h.symm) fun h => .inr h.symm⟩
  · rintro ⟨h1, h2, h3, h4⟩
    exact ⟨h1.symm, h2.symm, h3.symm, h4.elim (fun h => .inl h.symm) fun h => .inr h.symm⟩
theorem pick_comm {a b : Nt} (h : agreeN a b = true) : (if b.2.2.2 = 0 then b else a) = if a.2.2.2 = 0 then a else b := by
  obtain ⟨h1, h2, h3, h4⟩ := agree_iff.1 h
  by_cases ha : a.2.2.2 = 0 <;> by_cases hb : b.2.2.2 = 0
  · rw [if_pos ha, if_pos hb]; exact (node_ext h1 h2 h3 (ha.trans hb.symm)).symm
  · rw [if_pos ha, if_neg hb]
  · rw [if_neg ha, if_pos hb]
  · rw [if_neg ha, if_neg hb]
    exact node_ext h1 h2 h3 (h4.elim id fun h => h.elim (fun h => absurd h ha) fun h => absurd h hb)
theorem merge_comm (a b : Nt) : mergeN a b = mergeN b a := by
  unfold mergeN
  rw [Bool.and_comm, agree_comm]
  split
  · split
    · rename_i _ h
      rw [pick_comm (by rw [agree_comm]; exact h)]
    · rfl
  · rfl
theorem agree_self (a : Nt) : agreeN a a = true := agree_iff.2 ⟨rfl, rfl, rfl, .inl rfl⟩
theorem merge_self {a : Nt} (h : validN a = true) : mergeN a a = (a, 0) := by
  unfold mergeN
  rw [h, agree_self, Bool.and_self, if_pos rfl, if_pos rfl]
  split <;> rfl
theorem merge_yes {a b : Nt} (h : (mergeN a b).2 = 0) : validN a = true ∧ validN b = true ∧ agreeN a b = true ∧ (mergeN a b).1 = if b.2.2.2 = 0 then b else a := by
  unfold mergeN at h ⊢
  split at h
  · rename_i hv
    split at h
    · rename_i ha
      rw [if_pos hv, if_pos ha]
      rw [Bool.and_eq_true] at hv
      exact ⟨hv.1, hv.2, ha, rfl⟩
    · cases h
  · cases h
theorem merge_code (a b : Nt) : (mergeN a b).2 = 0 ∨ (mergeN a b).1 = zeroN ∧ ((mergeN a b).2 = 2 ∨ (mergeN a b).2 = 15) := by
  unfold mergeN
  split
  · split
    · exact .inl rfl
    · exact .inr ⟨rfl, .inr rfl⟩
  · exact .inr ⟨rfl, .inl rfl⟩
theorem merge_dead {a b : Nt} (h : (mergeN a b).2 = 0) : deadN (mergeN a b).1 = (deadN a || deadN b) ∧ validN (mergeN a b).1 = true := by
  obtain ⟨h1, h2, h3, h4⟩ := merge_yes h
  rw [h4]
  unfold deadN
  by_cases hb : b.2.2.2 = 0
  · rw [if_pos hb]; exact ⟨by simp [hb], h2⟩
  · rw [if_neg hb]; exact ⟨by simp [hb], h1⟩
theorem merge_agree {a b c : Nt} (hab : agreeN a b = true) (hbc : agreeN b c = true) (hac : agreeN a c = true) : agreeN (if b.2.2.2 = 0 then b else a) c = true := by
  split
  · exact hbc
  · exact hac
/-- How three nodes are grouped does not matter. -/
theorem merge_assoc {a b c : Nt} (h1 : (mergeN a b).2 = 0) (h2 : (mergeN b c).2 = 0) (h3 : (mergeN a c).2 = 0) :
    (mergeN (mergeN a b).1 c).2 = 0 ∧ mergeN a (mergeN b c).1 = mergeN (mergeN a b).1 c := by
  obtain ⟨va, vb, hab, e1⟩ := merge_yes h1
  obtain ⟨-, vc, hbc, e2⟩ := merge_yes h2
  obtain ⟨-, -, hac, e3⟩ := merge_yes h3
  have v1 := (merge_dead h1).2
  have v2 := (merge_dead h2).2
  have g1 := merge_agree hab hbc hac
  have g2 : agreeN a (if c.2.2.2 = 0 then c else b) = true := by
    split
    · exact hac
    · exact hab
  have m1 : mergeN (mergeN a b).1 c = (if c.2.2.2 = 0 then c else if b.2.2.2 = 0 then b else a, 0) := by
    rw [e1] at v1 ⊢
    unfold mergeN
    rw [v1, vc, g1, Bool.and_self, if_pos rfl, if_pos rfl]
  have m2 : mergeN a (mergeN b c).1 = (if (if c.2.2.2 = 0 then c else b).2.2.2 = 0 then (if c.2.2.2 = 0 then c else b) else a, 0) := by
    rw [e2] at v2 ⊢
    unfold mergeN
    rw [va, v2, g2, Bool.and_self, if_pos rfl, if_pos rfl]
  rw [m1, m2]
  refine ⟨rfl, ?_⟩
  by_cases hc : c.2.2.2 = 0
  · simp [hc]
  · by_cases hb : b.2.2.2 = 0 <;> simp [hc, hb]

/-! ### What is written -/
theorem dig_range (u : Nat) : ∀ c ∈ Lib.decDigits u, 48 ≤ c.toNat ∧ c.toNat ≤ 57 := by
  induction u using Nat.strongRecOn with
  | _ u ih =>
    intro c hc
    by_cases h : u < 10
    · rw [dig_small h] at hc
      rw [List.mem_singleton.1 hc, dig_nat h]
      omega
    · rw [dig_big h] at hc
      rcases List.mem_append.1 hc with hc | hc
      · exact ih (u / 10) (by omega) c hc
      · rw [List.mem_singleton.1 hc, dig_nat (Nat.mod_lt _ (by omega))]
        omega
theorem dig_sp (u : Nat) : (32 : UInt8) ∉ Lib.decDigits u := fun h => absurd (dig_range u _ h).1 (by decide)
theorem txt_sp (d : Dt) : (32 : UInt8) ∉ txtD d := by
  intro hc
  unfold txtD at hc
  split at hc
  · simp [rootT] at hc
  · rcases List.mem_append.1 hc with hc | hc
    · rcases List.mem_append.1 hc with hc | hc
      · exact dig_sp _ hc
      · simp at hc
    · exact dig_sp _ hc
theorem du_sp (d : Nat) (h : d < 16) : R.du d ≠ 32 := by
  have : d = 0 ∨ d = 1 ∨ d = 2 ∨ d = 3 ∨ d = 4 ∨ d = 5 ∨ d = 6 ∨ d = 7 ∨ d = 8 ∨ d = 9 ∨ d = 10 ∨ d = 11 ∨ d = 12 ∨ d = 13 ∨ d = 14 ∨ d = 15 := by omega
  rcases this with rfl | rfl | rfl | rfl | rfl | rfl | rfl | rfl | rfl | rfl | rfl | rfl | rfl | rfl | rfl | rfl <;> decide
theorem nm_sp (n : Nat) : (32 : UInt8) ∉ R.nm n := by
  intro hc
  unfold R.nm at hc
  rcases List.mem_append.1 hc with hc | hc
  · rcases List.mem_append.1 hc with hc | hc
    · simp at hc
    · have := List.eq_of_mem_replicate hc
      exact absurd this (by decide)
  · obtain ⟨d, hd, e⟩ := List.mem_map.1 hc
    exact du_sp d (R.digs_lt n d hd) e
def runeT (r : Int) : List UInt8 := if r = 0 then [45] else R.nm r.toNat
theorem rune_sp (r : Int) : (32 : UInt8) ∉ runeT r := by
  unfold runeT
  split
  · simp
  · exact nm_sp _
def txtN (n : Nt) : List UInt8 := txtD n.1 ++ 32 :: (txtD n.2.1 ++ 32 :: (Lib.decDigits n.2.2.1.toNat ++ 32 :: runeT n.2.2.2))

/-! ### The parts between spaces -/
def wordsL : List UInt8 → List (List UInt8)
  | [] => [[]]
  | c :: t => if c = 32 then [] :: wordsL t else match wordsL t with | [] => [[c]] | x :: r => (c :: x) :: r
theorem words_ne : ∀ l, wordsL l ≠ []
  | [] => by simp [wordsL]
  | c :: t => by
    rw [wordsL]
    split
    · simp
    · split <;> simp
theorem words_app : ∀ (x y : List UInt8), (32 : UInt8) ∉ x → wordsL (x ++ 32 :: y) = x :: wordsL y
  | [], y, _ => by rw [List.nil_append, wordsL, if_pos rfl]
  | c :: t, y, h => by
    have hc : c ≠ 32 := fun e => h (by rw [e]; simp)
    rw [List.cons_append, wordsL, if_neg hc, words_app t y fun hh => h (by simp [hh])]
theorem words_one : ∀ (x : List UInt8), (32 : UInt8) ∉ x → wordsL x = [x]
  | [], _ => rfl
  | c :: t, h => by
    have hc : c ≠ 32 := fun e => h (by rw [e]; simp)
    rw [wordsL, if_neg hc, words_one t fun hh => h (by simp [hh])]
theorem words_txt (n : Nt) : wordsL (txtN n) = [txtD n.1, txtD n.2.1, Lib.decDigits n.2.2.1.toNat, runeT n.2.2.2] := by
  unfold txtN
  rw [words_app _ _ (txt_sp _), words_app _ _ (txt_sp _), words_app _ _ (dig_sp _), words_one _ (rune_sp _)]
theorem words_len : ∀ l : List UInt8, (wordsL l).length ≤ l.length + 1
  | [] => by simp [wordsL]
  | c :: t => by
    have ih := words_len t
    rw [wordsL]
    split
    · simp; omega
    · split
      · simp
      · rename_i h; rw [h] at ih; simp at ih ⊢; omega
/-- What a split into at most so many parts gives. -/
def splitW : Nat → List UInt8 → List (List UInt8)
  | 0, l => [l]
  | k + 1, l => if (32 : UInt8) ∈ l then l.takeWhile (· ≠ 32) :: splitW k ((l.dropWhile (· ≠ 32)).drop 1) else [l]
theorem at_space {l : List UInt8} (h : (32 : UInt8) ∈ l) : l = l.takeWhile (· ≠ 32) ++ 32 :: (l.dropWhile (· ≠ 32)).drop 1 ∧ (32 : UInt8) ∉ l.takeWhile (· ≠ 32) := by
  induction l with
  | nil => simp at h
  | cons c t ih =>
    by_cases hc : c = 32
    · subst hc
      simp
    · have ht : (32 : UInt8) ∈ t := by
        rcases List.mem_cons.1 h with e | e
        · exact absurd e.symm hc
        · exact e
      obtain ⟨i1, i2⟩ := ih ht
      rw [List.takeWhile_cons, List.dropWhile_cons, if_pos (by simpa using hc), if_pos (by simpa using hc)]
      exact ⟨by rw [List.cons_append, ← i1], fun hh => (List.mem_cons.1 hh).elim (fun e => hc e.symm) i2⟩
theorem splitW_words : ∀ (k : Nat) (l : List UInt8), splitW k l = wordsL l ∨ ((splitW k l).length = k + 1 ∧ k + 1 < (wordsL l).length)
  | 0, l => by
    rw [splitW]
    by_cases h : (32 : UInt8) ∈ l
    · right
      obtain ⟨e, hn⟩ := at_space h
      have hw : wordsL l = l.takeWhile (· ≠ 32) :: wordsL ((l.dropWhile (· ≠ 32)).drop 1) := by
        conv => lhs; rw [e]
        exact words_app _ _ hn
      rw [hw]
      have h1 : 0 < (wordsL ((l.dropWhile (· ≠ 32)).drop 1)).length := List.length_pos_iff.2 (words_ne _)
      exact ⟨rfl, by rw [List.length_cons]; omega⟩
    · left; exact (words_one l h).symm
  | k + 1, l => by
    rw [splitW]
    by_cases h : (32 : UInt8) ∈ l
    · rw [if_pos h]
      obtain ⟨e, hn⟩ := at_space h
      have hw : wordsL l = l.takeWhile (· ≠ 32) :: wordsL ((l.dropWhile (· ≠ 32)).drop 1) := by
        conv => lhs; rw [e]
        exact words_app _ _ hn
      rcases splitW_words k ((l.dropWhile (· ≠ 32)).drop 1) with ih | ⟨i1, i2⟩
      · left; rw [hw, ih]
      · right; rw [hw]; simp only [List.length_cons]; omega
    · rw [if_neg h]
      left; exact (words_one l h).symm

/-! ### What is read -/
/-- The reference's number. -/
def tR : Nat → List UInt8 → Nat
  | n, [] => n
  | n, c :: t => if c.toNat < 48 ∨ 57 < c.toNat ∨ 461168601842738790 < n then 0 else tR (10 * n + c.toNat - 48) t
theorem tR_dig (a : Nat) : ∀ (t : List UInt8), a ≤ 4611686018427387909 → tR 0 (Lib.decDigits a ++ t) = tR a t := by
  induction a using Nat.strongRecOn with
  | _ a ih =>
    intro t ha
    by_cases h : a < 10
    · rw [dig_small h, List.singleton_append, tR, dig_nat h, if_neg (by omega)]
      congr 1
      omega
    · rw [dig_big h, List.append_assoc, ih (a / 10) (by omega) _ (by omega), List.singleton_append, tR, dig_nat (Nat.mod_lt _ (by omega)), if_neg (by omega)]
      congr 1
      omega
theorem tR_txt {a : Nat} (h : a ≤ 4611686018427387904) : tR 0 (Lib.decDigits a) = a := by
  have := tR_dig a [] (by omega)
  rw [List.append_nil] at this
  rw [this, tR]
/-- The text of one node is no other one's. -/
theorem dig_inj {a b : Nat} (ha : a ≤ 4611686018427387904) (hb : b ≤ 4611686018427387904) (h : Lib.decDigits a = Lib.decDigits b) : a = b := by
  have := tR_txt ha
  rw [h, tR_txt hb] at this
  exact this.symm
theorem vld_nat {r : Int} (h : R.vld r = true) : ∃ n : Nat, r = (n : Int) ∧ R.vld (n : Int) = true ∧ n ≤ 1114111 ∧ 0 < n := by
  have k := R.vld_iff.1 h
  exact ⟨r.toNat, by omega, by rw [Int.toNat_of_nonneg (by omega)]; exact h, by omega, by omega⟩
theorem nm_inj {a b : Nat} (ha : a ≤ 1114111) (hb : b ≤ 1114111) (h : R.nm a = R.nm b) : a = b := by
  have h1 := (R.nm_pU a ha).2
  rw [h, (R.nm_pU b hb).2] at h1
  exact (Option.some.inj h1).symm
theorem nm_ne_dash {a : Nat} (h : a ≤ 1114111) : R.nm a ≠ [45] := by
  intro e
  have := (R.nm_len a h).1
  rw [e] at this
  simp at this
theorem rune_inj {r s : Int} (hr : r = 0 ∨ R.vld r = true) (hs : s = 0 ∨ R.vld s = true) (h : runeT r = runeT s) : r = s := by
  unfold runeT at h
  rcases hr with rfl | hr
  · rcases hs with rfl | hs
    · rfl
    · obtain ⟨n, rfl, -, hn, h0⟩ := vld_nat hs
      rw [if_pos rfl, if_neg (by omega), Int.toNat_natCast] at h
      exact absurd h.symm (nm_ne_dash hn)
  · obtain ⟨m, rfl, -, hm, hm0⟩ := vld_nat hr
    rw [if_neg (by omega), Int.toNat_natCast] at h
    rcases hs with rfl | hs
    · rw [if_pos rfl] at h
      exact absurd h (nm_ne_dash hm)
    · obtain ⟨n, rfl, -, hn, h0⟩ := vld_nat hs
      rw [if_neg (by omega), Int.toNat_natCast] at h
      rw [nm_inj hm hn h]
theorem txtN_inj {m n : Nt} (hm : VN m) (hn : VN n) (h : txtN m = txtN n) : m = n := by
  have e := words_txt m
  rw [h, words_txt n] at e
  simp only [List.cons.injEq, and_true] at e
  obtain ⟨e1, e2, e3, e4⟩ := e
  obtain ⟨m1, m2, m3, m4, m5, m6⟩ := hm
  obtain ⟨n1, n2, n3, n4, n5, n6⟩ := hn
  refine node_ext (txt_inj (.inl m1) (.inl n1) e1.symm) (txt_inj m2 n2 e2.symm) ?_ (rune_inj m6 n6 e4.symm)
  have := dig_inj (by omega) (by omega) e3
  omega
end Go.Proofs.YtodjccfaipkpfaaGreatDoor.Nd
end

/-
  Stores, plainly: lists of nodes whose dots increase; what stands at a dot; one more node; the store of some nodes.
-/
section
namespace Go.Proofs.YtodjccfaipkpfaaGreatDoor.Qs
set_option linter.unusedVariables false
open D Nd

def SrtN (l : List Nt) : Prop := l.Pairwise fun a b => less a.1 b.1 = true
def validS (l : List Nt) : Bool := l.all validN && isSetR (l.map (·.1))
theorem srt_map {l : List Nt} : Srt (l.map (·.1)) ↔ SrtN l := List.pairwise_map
theorem validS_iff {l : List Nt} : validS l = true ↔ (∀ x ∈ l, validN x = true) ∧ SrtN l := by
  unfold validS
  rw [Bool.and_eq_true, List.all_eq_true, isSet_iff, srt_map]
theorem validS_at {l : List Nt} (h1 : ∀ i (hi : i < l.length), validN l[i] = true) (h2 : ∀ i (hi : i + 1 < l.length), less l[i].1 l[i + 1].1 = true) : validS l = true := by
  unfold validS
  rw [Bool.and_eq_true, List.all_eq_true]
  refine ⟨fun x hx => ?_, isSet_at _ fun i hi => ?_⟩
  · obtain ⟨i, hi, rfl⟩ := List.mem_iff_getElem.1 hx
    exact h1 i hi
  · simp only [List.getElem_map]
    exact h2 i (by simpa using hi)
theorem validS_no1 {l : List Nt} (i : Nat) (hi : i < l.length) (h : validN l[i] = false) : validS l = false := by
  rw [← Bool.not_eq_true, validS_iff]
  intro k
  rw [k.1 _ (List.getElem_mem hi)] at h
  cases h
theorem validS_no2 {l : List Nt} (i : Nat) (hi : i + 1 < l.length) (h : less l[i].1 l[i + 1].1 = false) : validS l = false := by
  rw [← Bool.not_eq_true, validS_iff]
  intro k
  rw [List.pairwise_iff_getElem.1 k.2 i (i + 1) (by omega) hi (by omega)] at h
  cases h
/-! ### What stands at a dot -/
def atS (l : List Nt) (d : Dt) : Option Nt := l.find? fun n => decide (n.1 = d)
theorem at_some {l : List Nt} {d : Dt} {n : Nt} (h : atS l d = some n) : n ∈ l ∧ n.1 = d := ⟨List.mem_of_find?_eq_some h, by simpa using List.find?_some h⟩
theorem at_none {l : List Nt} {d : Dt} : atS l d = none ↔ ∀ n ∈ l, n.1 ≠ d := by unfold atS; rw [List.find?_eq_none]; simp
theorem at_mem {l : List Nt} (hs : SrtN l) {n : Nt} (hn : n ∈ l) : atS l n.1 = some n := by
  rcases h : atS l n.1 with _ | m
  · exact absurd rfl (at_none.1 h n hn)
  · obtain ⟨h1, h2⟩ := at_some h
    obtain ⟨i, hi, rfl⟩ := List.mem_iff_getElem.1 hn
    obtain ⟨j, hj, rfl⟩ := List.mem_iff_getElem.1 h1
    rcases Nat.lt_trichotomy i j with k | rfl | k
    · have := List.pairwise_iff_getElem.1 hs i j hi hj k
      exact absurd h2 (less_ne this).symm
    · rfl
    · have := List.pairwise_iff_getElem.1 hs j i hj hi k
      exact absurd h2 (less_ne this)
theorem at_iff {l : List Nt} (hs : SrtN l) {n : Nt} : n ∈ l ↔ atS l n.1 = some n := ⟨at_mem hs, fun h => (at_some h).1⟩
theorem srt_ext2 : ∀ {l m : List Nt}, SrtN l → SrtN m → (∀ x, x ∈ l ↔ x ∈ m) → l = m
  | [], [], _, _, _ => rfl
  | [], b :: m, _, _, h => absurd ((h b).2 (by simp)) (by simp)
  | a :: l, [], _, _, h => absurd ((h a).1 (by simp)) (by simp)
  | a :: l, b :: m, hl, hm, h => by
    unfold SrtN at hl hm
    rw [List.pairwise_cons] at hl hm
    have hab : a = b := by
      rcases List.mem_cons.1 ((h a).1 (by simp)) with e | e
      · exact e
      · rcases List.mem_cons.1 ((h b).2 (by simp)) with e2 | e2
        · exact e2.symm
        · have h1 := hm.1 a e
          have h2 := hl.1 b e2
          rw [less_asymm h1] at h2
          cases h2
    subst hab
    congr 1
    refine srt_ext2 hl.2 hm.2 fun x => ?_
    have h1 : x ∈ l → x ≠ a := fun hx e => by subst e; exact absurd rfl (less_ne (hl.1 x hx))
    have h2 : x ∈ m → x ≠ a := fun hx e => by subst e; exact absurd rfl (less_ne (hm.1 x hx))
    constructor
    · intro hx
      exact (List.mem_cons.1 ((h x).1 (List.mem_cons_of_mem _ hx))).resolve_left (h1 hx)
    · intro hx
      exact (List.mem_cons.1 ((h x).2 (List.mem_cons_of_mem _ hx))).resolve_left (h2 hx)
/-- Two stores with the same at each dot are one. -/
theorem at_ext {l m : List Nt} (hl : SrtN l) (hm : SrtN m) (h : ∀ d, atS l d = atS m d) : l = m := srt_ext2 hl hm fun x => by rw [at_iff hl, at_iff hm, h]
/-! ### One more node -/
def posS (l : List Nt) (d : Dt) : Nat := pos (l.map (·.1)) d
theorem posS_le (l : List Nt) (d : Dt) : posS l d ≤ l.length := by have := pos_le (l.map (·.1)) d; rw [List.length_map] at this; exact this
theorem posS_lt {l : List Nt} {d : Dt} {i : Nat} (hi : i < l.length) (h : i < posS l d) : less l[i].1 d = true := by
  have := pos_lt (s := l.map fun n : Nt => n.1) (d := d) (i := i) (by simpa using hi) h
  simpa using this
theorem posS_ge {l : List Nt} (hs : SrtN l) {d : Dt} {i : Nat} (hi : i < l.length) (h : posS l d ≤ i) : less l[i].1 d = false := by
  have h0 : posS l d < (l.map (·.1)).length := by rw [List.length_map]; omega
  have h1 : less (l[posS l d]'(by rw [List.length_map] at h0; exact h0)).1 d = false := by
    have h1 : less ((l.map fun n : Nt => n.1)[posS l d]'h0) d = false := pos_at (s := l.map fun n : Nt => n.1) (d := d) h0
    rw [List.getElem_map] at h1
    exact h1
  rcases Nat.lt_or_eq_of_le h with h2 | h2
  · have h3 := List.pairwise_iff_getElem.1 hs (posS l d) i (by omega) hi h2
    rw [← Bool.not_eq_true]
    intro h4
    have := less_trans h3 h4
    rw [h1] at this
    cases this
  · subst h2
    exact h1
/-- A store with another node at a dot, whatever it is. -/
def setS (l : List Nt) (n : Nt) : List Nt := l.take (posS l n.1) ++ n :: (l.drop (posS l n.1)).filter fun x => !decide (x.1 = n.1)
theorem mem_setS {l : List Nt} (hs : SrtN l) {n x : Nt} : x ∈ setS l n ↔ x = n ∨ (x ∈ l ∧ x.1 ≠ n.1) := by
  unfold setS
  rw [List.mem_append, List.mem_cons, List.mem_filter]
  constructor
  · rintro (h | h | ⟨h1, h2⟩)
    · obtain ⟨i, hi, rfl⟩ := List.mem_iff_getElem.1 h
      rw [List.length_take] at hi
      rw [List.getElem_take]
      exact .inr ⟨List.getElem_mem _, less_ne (posS_lt (by omega) (by omega))⟩
    · exact .inl h
    · exact .inr ⟨List.mem_of_mem_drop h1, by simpa using h2⟩
  · rintro (h | ⟨h1, h2⟩)
    · exact .inr (.inl h)
    · rw [← List.take_append_drop (posS l n.1) l] at h1
      rcases List.mem_append.1 h1 with h | h
      · exact .inl h
      · exact .inr (.inr ⟨h, by simpa using h2⟩)
theorem srt_setS {l : List Nt} (hs : SrtN l) (n : Nt) : SrtN (setS l n) := by
  unfold setS SrtN
  rw [List.pairwise_append]
  refine ⟨List.Pairwise.sublist (List.take_sublist _ _) hs, ?_, ?_⟩
  · rw [List.pairwise_cons]
    refine ⟨fun x hx => ?_, List.Pairwise.sublist List.filter_sublist (List.Pairwise.sublist (List.drop_sublist _ _) hs)⟩
    obtain ⟨h1, h2⟩ := List.mem_filter.1 hx
    obtain ⟨i, hi, rfl⟩ := List.mem_iff_getElem.1 h1
    rw [List.length_drop] at hi
    rw [List.getElem_drop] at h2 ⊢
    have h3 := posS_ge hs (d := n.1) (i := posS l n.1 + i) (by omega) (by omega)
    rcases h4 : less n.1 l[posS l n.1 + i].1 with _ | _
    · exact absurd (less_tri h3 h4) (by simpa using h2)
    · rfl
  · intro a ha b hb
    obtain ⟨i, hi, rfl⟩ := List.mem_iff_getElem.1 ha
    rw [List.length_take] at hi
    rw [List.getElem_take]
    have h1 : less l[i].1 n.1 = true := posS_lt (by omega) (by omega)
    rcases List.mem_cons.1 hb with rfl | hb
    · exact h1
    · obtain ⟨j, hj, rfl⟩ := List.mem_iff_getElem.1 (List.mem_filter.1 hb).1
      rw [List.length_drop] at hj
      rw [List.getElem_drop]
      exact List.pairwise_iff_getElem.1 hs i (posS l n.1 + j) (by omega) (by omega) (by omega)
theorem at_setS {l : List Nt} (hs : SrtN l) (n : Nt) (d : Dt) : atS (setS l n) d = if d = n.1 then some n else atS l d := by
  have h2 := srt_setS hs n
  split
  · rename_i h
    subst h
    exact at_mem h2 ((mem_setS hs).2 (.inl rfl))
  · rename_i h
    rcases hx : atS l d with _ | x
    · rw [at_none]
      intro y hy e
      rcases (mem_setS hs).1 hy with rfl | ⟨hy, -⟩
      · exact h e.symm
      · exact at_none.1 hx y hy e
    · obtain ⟨h3, rfl⟩ := at_some hx
      exact at_mem h2 ((mem_setS hs).2 (.inr ⟨h3, h⟩))
/-- One more node, or an error. -/
def putN (l : List Nt) (n : Nt) : List Nt × Int :=
  match atS l n.1 with
  | none => (setS l n, 0)
  | some r => if (mergeN r n).2 = 0 then (setS l (mergeN r n).1, 0) else ([], (mergeN r n).2)
theorem merge_dot {a b : Nt} (h : (mergeN a b).2 = 0) : (mergeN a b).1.1 = a.1 ∧ a.1 = b.1 := by
  obtain ⟨h1, h2, h3, h4⟩ := merge_yes h
  obtain ⟨k1, -⟩ := agree_iff.1 h3
  rw [h4]
  split
  · exact ⟨k1.symm, k1⟩
  · exact ⟨rfl, k1⟩
/-- What Put lays at the node's dot. -/
def upN (l : List Nt) (n : Nt) : Nt := match atS l n.1 with | none => n | some r => (mergeN r n).1
theorem put_yes {l : List Nt} {n : Nt} (h : (putN l n).2 = 0) : (putN l n).1 = setS l (upN l n) ∧ (upN l n).1 = n.1 := by
  unfold putN upN at *
  rcases hr : atS l n.1 with _ | r
  · exact ⟨rfl, rfl⟩
  · simp only [hr] at h ⊢
    by_cases hm : (mergeN r n).2 = 0
    · simp only [hm, if_true]
      exact ⟨by first | trivial | rfl, (merge_dot hm).1.trans (merge_dot hm).2⟩
    · simp only [hm, if_false] at h
theorem put_no {l : List Nt} {n : Nt} (h : (putN l n).2 ≠ 0) : (putN l n).1 = [] := by
  unfold putN at *
  rcases hr : atS l n.1 with _ | r
  · simp only [hr] at h; exact absurd rfl h
  · simp only [hr] at h ⊢
    by_cases hm : (mergeN r n).2 = 0
    · simp only [hm, if_true] at h; exact absurd rfl h
    · simp only [hm, if_false]
theorem put_at {l : List Nt} (hs : SrtN l) {n : Nt} (h : (putN l n).2 = 0) (d : Dt) : atS (putN l n).1 d = if d = n.1 then some (upN l n) else atS l d := by
  obtain ⟨h1, h2⟩ := put_yes h
  rw [h1, at_setS hs, h2]
theorem put_valid {l : List Nt} (hl : validS l = true) {n : Nt} (hn : validN n = true) (h : (putN l n).2 = 0) : validS (putN l n).1 = true := by
  obtain ⟨h1, h2⟩ := put_yes h
  obtain ⟨h3, h4⟩ := validS_iff.1 hl
  rw [h1, validS_iff]
  refine ⟨fun x hx => ?_, srt_setS h4 _⟩
  rcases (mem_setS h4).1 hx with rfl | ⟨hx, -⟩
  · unfold upN putN at *
    rcases hr : atS l n.1 with _ | r
    · exact hn
    · simp only [hr] at h ⊢
      by_cases hm : (mergeN r n).2 = 0
      · exact (merge_dead hm).2
      · simp only [hm, if_false] at h
  · exact h3 x hx
end Go.Proofs.YtodjccfaipkpfaaGreatDoor.Qs
end

/-
  Stores, plainly: the store of some nodes; the order of the nodes does not matter.
-/
section
namespace Go.Proofs.YtodjccfaipkpfaaGreatDoor.Qs
set_option linter.unusedVariables false
open D Nd

/-! ### What Put lays, written out -/
theorem setS_new {l : List Nt} {n : Nt} (h : atS l n.1 = none) : setS l n = l.take (posS l n.1) ++ n :: l.drop (posS l n.1) := by
  unfold setS
  rw [List.filter_eq_self.2 fun x hx => by simpa using at_none.1 h x (List.mem_of_mem_drop hx)]
theorem setS_old {l : List Nt} (hs : SrtN l) {n r : Nt} (h : atS l n.1 = some r) : ∃ hp : posS l n.1 < l.length, l[posS l n.1] = r ∧ setS l n = l.take (posS l n.1) ++ n :: l.drop (posS l n.1 + 1) := by
  obtain ⟨h1, h2⟩ := at_some h
  obtain ⟨i, hi, rfl⟩ := List.mem_iff_getElem.1 h1
  have e : posS l n.1 = i := by
    rcases Nat.lt_trichotomy (posS l n.1) i with k | k | k
    · have h3 := List.pairwise_iff_getElem.1 hs (posS l n.1) i (by omega) hi k
      have h4 := posS_ge hs (d := n.1) (i := posS l n.1) (by omega) (Nat.le_refl _)
      rw [h2] at h3
      rw [h3] at h4
      cases h4
    · exact k
    · have h3 := posS_lt hi k
      rw [h2, less_irr] at h3
      cases h3
  refine ⟨by omega, by simp only [e], ?_⟩
  unfold setS
  rw [e, List.drop_eq_getElem_cons hi, List.filter_cons, if_neg (by simp [h2])]
  rw [List.filter_eq_self.2 fun x hx => ?_]
  obtain ⟨j, hj, rfl⟩ := List.mem_iff_getElem.1 hx
  rw [List.length_drop] at hj
  rw [List.getElem_drop]
  have h3 := List.pairwise_iff_getElem.1 hs i (i + 1 + j) hi (by omega) (by omega)
  rw [h2] at h3
  simpa using (less_ne h3).symm
theorem setS_len {l : List Nt} (hs : SrtN l) (n : Nt) : (setS l n).length = if (atS l n.1).isSome then l.length else l.length + 1 := by
  have hp := posS_le l n.1
  rcases h : atS l n.1 with _ | r
  · rw [setS_new h, List.length_append, List.length_cons, List.length_take, List.length_drop]
    simp only [Option.isSome_none, Bool.false_eq_true, if_false]
    omega
  · obtain ⟨h1, -, h2⟩ := setS_old hs h
    rw [h2, List.length_append, List.length_cons, List.length_take, List.length_drop]
    simp only [Option.isSome_some, if_true]
    omega
theorem put_len {l : List Nt} (hs : SrtN l) {n : Nt} (h : (putN l n).2 = 0) : (putN l n).1.length = if (atS l n.1).isSome then l.length else l.length + 1 := by
  obtain ⟨h1, h2⟩ := put_yes h
  rw [h1, setS_len hs, h2]
/-- Put again changes nothing. -/
theorem put_again {l : List Nt} (hs : SrtN l) {n : Nt} (hv : validS l = true) (hn : validN n = true) (h : (putN l n).2 = 0) : putN (putN l n).1 n = ((putN l n).1, 0) := by
  have hs2 := (validS_iff.1 (put_valid hv hn h)).2
  have ha := put_at hs h n.1
  rw [if_pos rfl] at ha
  have hm : mergeN (upN l n) n = (upN l n, 0) := by
    have hu : validN (upN l n) = true := (validS_iff.1 (put_valid hv hn h)).1 _ (at_some ha).1
    unfold upN at hu ⊢
    rcases hr : atS l n.1 with _ | r
    · exact merge_self hn
    · simp only [hr] at hu ⊢
      have hm0 : (mergeN r n).2 = 0 := by
        unfold putN at h
        simp only [hr] at h
        by_cases hm : (mergeN r n).2 = 0
        · exact hm
        · simp only [hm, if_false] at h
      obtain ⟨v1, v2, ag, e⟩ := merge_yes hm0
      rw [e] at hu ⊢
      have ag2 : agreeN (if n.2.2.2 = 0 then n else r) n = true := by
        split
        · exact agree_self n
        · exact ag
      unfold mergeN
      rw [hu, hn, ag2, Bool.and_self, if_pos rfl, if_pos rfl]
      split <;> rfl
  have hp : (putN (putN l n).1 n).2 = 0 ∧ upN (putN l n).1 n = upN l n := by
    unfold putN upN at *
    constructor
    · simp only [ha, hm, if_true]
    · simp only [ha, hm]
  have e : (putN (putN l n).1 n).1 = (putN l n).1 := by
    refine at_ext ?_ hs2 fun d => ?_
    · obtain ⟨h1, -⟩ := put_yes hp.1
      rw [h1]
      exact srt_setS hs2 _
    · rw [put_at hs2 hp.1, hp.2]
      split
      · rename_i hd
        rw [hd, ha]
      · rfl
  exact Prod.ext e hp.1

/-! ### The store of some nodes -/
def agAll (l : List Nt) : Prop := ∀ a ∈ l, ∀ b ∈ l, a.1 = b.1 → agreeN a b = true
def agB : List Nt → Bool
  | [] => true
  | a :: t => (t.all fun b => !decide (a.1 = b.1) || agreeN a b) && agB t
theorem agB_iff : ∀ {l : List Nt}, agB l = true ↔ agAll l
  | [] => by simp [agB, agAll]
  | a :: t => by
    rw [agB, Bool.and_eq_true, agB_iff (l := t), List.all_eq_true]
    constructor
    · rintro ⟨h1, h2⟩ x hx y hy e
      rcases List.mem_cons.1 hx with rfl | hx <;> rcases List.mem_cons.1 hy with rfl | hy
      · exact agree_self _
      · have := h1 y hy
        simpa [e] using this
      · have h5 : x ∈ t := by assumption
        have := h1 x h5
        rw [agree_comm]
        simpa [e] using this
      · exact h2 x hx y hy e
    · intro h
      refine ⟨fun b hb => ?_, fun x hx y hy e => h x (by simp [hx]) y (by simp [hy]) e⟩
      by_cases e : a.1 = b.1
      · simp [e, h a (by simp) b (by simp [hb]) e]
      · simp [e]
def deadAt (l : List Nt) (d : Dt) : Bool := l.any fun n => decide (n.1 = d) && deadN n
theorem deadAt_iff {l : List Nt} {d : Dt} : deadAt l d = true ↔ ∃ n ∈ l, n.1 = d ∧ deadN n = true := by unfold deadAt; simp
/-- What all nodes with a dot are merged to. -/
def mg (l : List Nt) (d : Dt) : Option Nt := (atS l d).map fun a => if deadAt l d = true then killN a else a
def foldN (l : List Nt) (o : List Nt) : List Nt := l.foldl (fun o n => (putN o n).1) o
def ofN (l : List Nt) : List Nt × Int := if l.all validN = true then (if agB l = true then (foldN l [], 0) else ([], 15)) else ([], 2)
theorem kill_eq {a b : Nt} (h : agreeN a b = true) : killN a = killN b := by
  obtain ⟨h1, h2, h3, -⟩ := agree_iff.1 h
  exact node_ext h1 h2 h3 rfl
theorem kill_dead {a : Nt} (h : deadN a = true) : killN a = a := node_ext rfl rfl rfl (by unfold deadN at h; exact (of_decide_eq_true h).symm)
theorem agree_kill {a b : Nt} (h : agreeN a b = true) : agreeN (killN a) b = true := by
  obtain ⟨h1, h2, h3, -⟩ := agree_iff.1 h
  exact agree_iff.2 ⟨h1, h2, h3, .inr (.inl rfl)⟩
theorem at_app (l : List Nt) (n : Nt) (d : Dt) : atS (l ++ [n]) d = (atS l d).or (if n.1 = d then some n else none) := by
  unfold atS
  rw [List.find?_append]
  congr 1
  by_cases h : n.1 = d <;> simp [h]
theorem dead_app (l : List Nt) (n : Nt) (d : Dt) : deadAt (l ++ [n]) d = (deadAt l d || (decide (n.1 = d) && deadN n)) := by
  unfold deadAt
  rw [List.any_append]
  simp
theorem step_ok {o pre : List Nt} {n : Nt} (hv : validS o = true) (ha : ∀ d, atS o d = mg pre d) (hn : validN n = true) (hg : agAll (pre ++ [n])) : (putN o n).2 = 0 ∧ validS (putN o n).1 = true ∧ ∀ d, atS (putN o n).1 d = mg (pre ++ [n]) d := by
  have hs := (validS_iff.1 hv).2
  have other : ∀ d, d ≠ n.1 → mg (pre ++ [n]) d = mg pre d := fun d hd => by
    unfold mg
    rw [at_app, dead_app, if_neg (fun e => hd e.symm), decide_eq_false (fun e => hd e.symm), Bool.false_and, Bool.or_false, Option.or_none]
  have main : (putN o n).2 = 0 ∧ some (upN o n) = mg (pre ++ [n]) n.1 := by
    have h0 := ha n.1
    unfold mg at h0
    rcases hp : atS pre n.1 with _ | a
    · rw [hp] at h0
      simp only [Option.map_none] at h0
      unfold putN upN mg
      rw [h0, at_app, hp, dead_app]
      have hd : deadAt pre n.1 = false := by
        rw [← Bool.not_eq_true, deadAt_iff]
        rintro ⟨x, hx, e, -⟩
        exact at_none.1 hp x hx e
      rw [hd]
      refine ⟨rfl, ?_⟩
      simp only [if_true, Option.none_or, Option.map_some, decide_true, Bool.true_and, Bool.false_or]
      split
      · rename_i h; rw [kill_dead h]
      · rfl
    · rw [hp] at h0
      simp only [Option.map_some] at h0
      obtain ⟨p1, p2⟩ := at_some hp
      have ag : agreeN a n = true := hg a (by simp [p1]) n (by simp) p2
      obtain ⟨r, hr⟩ : ∃ r, r = if deadAt pre n.1 = true then killN a else a := ⟨_, rfl⟩
      rw [← hr] at h0
      have agr : agreeN r n = true := by rw [hr]; split; exact agree_kill ag; exact ag
      have vr : validN r = true := (validS_iff.1 hv).1 _ (at_some h0).1
      have hm : mergeN r n = (if n.2.2.2 = 0 then n else r, 0) := by
        unfold mergeN
        rw [vr, hn, agr, Bool.and_self, if_pos rfl, if_pos rfl]
      unfold putN upN mg
      rw [h0, at_app, hp, dead_app]
      simp only [hm, if_true, Option.some_or, Option.map_some, decide_true, Bool.true_and, true_and]
      by_cases hz : n.2.2.2 = 0
      · have hdn : deadN n = true := by unfold deadN; simpa using hz
        rw [if_pos hz, hdn, Bool.or_true, if_pos rfl, kill_eq ag, kill_dead hdn]
      · have hdn : deadN n = false := by unfold deadN; simpa using hz
        rw [if_neg hz, hdn, Bool.or_false, hr]
  refine ⟨main.1, put_valid hv hn main.1, fun d => ?_⟩
  rw [put_at hs main.1]
  split
  · rename_i hd
    rw [hd]
    exact main.2
  · rename_i hd
    rw [ha, other d hd]
theorem fold_ok : ∀ (t pre o : List Nt), validS o = true → (∀ d, atS o d = mg pre d) → (∀ x ∈ t, validN x = true) → agAll (pre ++ t) → validS (foldN t o) = true ∧ ∀ d, atS (foldN t o) d = mg (pre ++ t) d
  | [], pre, o, h1, h2, _, _ => by rw [List.append_nil]; exact ⟨h1, h2⟩
  | n :: t, pre, o, h1, h2, h3, h4 => by
    have hg : agAll (pre ++ [n]) := fun a ha b hb e => h4 a (by simp at ha ⊢; rcases ha with h | h <;> simp [h]) b (by simp at hb ⊢; rcases hb with h | h <;> simp [h]) e
    obtain ⟨-, k2, k3⟩ := step_ok h1 h2 (h3 n (by simp)) hg
    have := fold_ok t (pre ++ [n]) (putN o n).1 k2 k3 (fun x hx => h3 x (by simp [hx])) (by rw [List.append_assoc]; exact h4)
    rw [List.append_assoc] at this
    exact this
theorem of_ok {l : List Nt} (h1 : ∀ x ∈ l, validN x = true) (h2 : agAll l) : ofN l = (foldN l [], 0) ∧ validS (foldN l []) = true ∧ ∀ d, atS (foldN l []) d = mg l d := by
  have := fold_ok l [] [] rfl (fun d => rfl) h1 (by rw [List.nil_append]; exact h2)
  rw [List.nil_append] at this
  refine ⟨?_, this⟩
  unfold ofN
  rw [if_pos (List.all_eq_true.2 h1), if_pos (agB_iff.2 h2)]
theorem mg_same {l m : List Nt} (h : ∀ x, x ∈ l ↔ x ∈ m) (hg : agAll l) (d : Dt) : mg l d = mg m d := by
  have hd : deadAt l d = deadAt m d := by
    rw [Bool.eq_iff_iff, deadAt_iff, deadAt_iff]
    exact ⟨fun ⟨n, h1, h2⟩ => ⟨n, (h n).1 h1, h2⟩, fun ⟨n, h1, h2⟩ => ⟨n, (h n).2 h1, h2⟩⟩
  unfold mg
  rw [hd]
  rcases ha : atS l d with _ | a
  · rcases hb : atS m d with _ | b
    · rfl
    · obtain ⟨b1, b2⟩ := at_some hb
      exact absurd b2 (at_none.1 ha b ((h b).2 b1))
  · obtain ⟨a1, a2⟩ := at_some ha
    rcases hb : atS m d with _ | b
    · exact absurd a2 (at_none.1 hb a ((h a).1 a1))
    · obtain ⟨b1, b2⟩ := at_some hb
      have ag := hg a a1 b ((h b).2 b1) (a2.trans b2.symm)
      simp only [Option.map_some, Option.some.injEq]
      split
      · exact kill_eq ag
      · rename_i hn
        have h0 : ∀ x ∈ m, x.1 = d → x.2.2.2 ≠ 0 := fun x hx e hz => hn (deadAt_iff.2 ⟨x, hx, e, by unfold deadN; simpa using hz⟩)
        obtain ⟨e1, e2, e3, e4⟩ := agree_iff.1 ag
        exact node_ext e1 e2 e3 (e4.elim id fun h' => h'.elim (fun h' => absurd h' (h0 a ((h a).1 a1) a2)) fun h' => absurd h' (h0 b b1 b2))
/-- Neither the order of the nodes nor how often each is there matters. -/
theorem of_same {l m : List Nt} (h : ∀ x, x ∈ l ↔ x ∈ m) : ofN l = ofN m := by
  have hv : l.all validN = m.all validN := by
    rw [Bool.eq_iff_iff, List.all_eq_true, List.all_eq_true]
    exact ⟨fun k x hx => k x ((h x).2 hx), fun k x hx => k x ((h x).1 hx)⟩
  have hg : agB l = agB m := by
    rw [Bool.eq_iff_iff, agB_iff, agB_iff]
    exact ⟨fun k a ha b hb => k a ((h a).2 ha) b ((h b).2 hb), fun k a ha b hb => k a ((h a).1 ha) b ((h b).1 hb)⟩
  by_cases h1 : l.all validN = true
  · by_cases h2 : agB l = true
    · obtain ⟨a1, a2, a3⟩ := of_ok (List.all_eq_true.1 h1) (agB_iff.1 h2)
      obtain ⟨b1, b2, b3⟩ := of_ok (l := m) (List.all_eq_true.1 (hv ▸ h1)) (agB_iff.1 (hg ▸ h2))
      rw [a1, b1]
      refine Prod.ext (at_ext (validS_iff.1 a2).2 (validS_iff.1 b2).2 fun d => ?_) rfl
      rw [a3, b3, mg_same h (agB_iff.1 h2)]
    · unfold ofN
      rw [← hv, ← hg, if_pos h1, if_pos h1, if_neg h2, if_neg h2]
  · unfold ofN
    rw [← hv, if_neg h1, if_neg h1]
theorem of_valid {l : List Nt} (h : (ofN l).2 = 0) : (∀ x ∈ l, validN x = true) ∧ agAll l ∧ validS (ofN l).1 = true := by
  unfold ofN at h ⊢
  split at h
  · rename_i h1
    split at h
    · rename_i h2
      rw [if_pos h1, if_pos h2]
      exact ⟨List.all_eq_true.1 h1, agB_iff.1 h2, (of_ok (List.all_eq_true.1 h1) (agB_iff.1 h2)).2.1⟩
    · cases h
  · cases h
theorem of_no {l : List Nt} (h : (ofN l).2 ≠ 0) : (ofN l).1 = [] := by
  unfold ofN at h ⊢
  split
  · split
    · rename_i h1 h2
      rw [if_pos h1, if_pos h2] at h
      exact absurd rfl h
    · rfl
  · rfl
theorem srt_one {l : List Nt} (hs : SrtN l) {a b : Nt} (ha : a ∈ l) (hb : b ∈ l) (e : a.1 = b.1) : a = b := by
  have h1 := at_mem hs ha
  have h2 := at_mem hs hb
  rw [e, h2] at h1
  exact (Option.some.inj h1).symm
/-- The store of a store is the store. -/
theorem of_self {l : List Nt} (h : validS l = true) : ofN l = (l, 0) := by
  obtain ⟨h1, h2⟩ := validS_iff.1 h
  have hg : agAll l := fun a ha b hb e => by rw [srt_one h2 ha hb e]; exact agree_self b
  obtain ⟨a1, a2, a3⟩ := of_ok h1 hg
  rw [a1]
  refine Prod.ext (at_ext (validS_iff.1 a2).2 h2 fun d => ?_) rfl
  rw [a3]
  unfold mg
  rcases ha : atS l d with _ | a
  · rfl
  · obtain ⟨k1, k2⟩ := at_some ha
    simp only [Option.map_some, Option.some.injEq]
    split
    · rename_i hd
      obtain ⟨x, hx, e, hz⟩ := deadAt_iff.1 hd
      rw [srt_one h2 k1 hx (k2.trans e.symm)]
      exact kill_dead hz
    · rfl
end Go.Proofs.YtodjccfaipkpfaaGreatDoor.Qs
end

/-
  Stores, plainly: nodes that are killed, the dots and contexts of a store, the greatest time, the parents that are lacking.
-/
section
namespace Go.Proofs.YtodjccfaipkpfaaGreatDoor.Qs
set_option linter.unusedVariables false
open D Nd

/-! ### Kill -/
def killAt (dots : List Dt) (n : Nt) : Nt := if n.1 ∈ dots then killN n else n
def killS (l : List Nt) (dots : List Dt) : List Nt × Int := if dots.all (fun d => (atS l d).isSome) = true then (l.map (killAt dots), 0) else ([], 9)
theorem killAt_dot (dots : List Dt) (n : Nt) : (killAt dots n).1 = n.1 := by unfold killAt; split <;> rfl
theorem valid_killN {n : Nt} (h : validN n = true) : validN (killN n) = true := by
  rw [valid_vn] at *
  obtain ⟨h1, h2, h3, h4, h5, h6⟩ := h
  exact ⟨h1, h2, h3, h4, h5, .inl rfl⟩
theorem kill_valid {l : List Nt} (h : validS l = true) (dots : List Dt) : validS (l.map (killAt dots)) = true := by
  obtain ⟨h1, h2⟩ := validS_iff.1 h
  rw [validS_iff]
  constructor
  · intro x hx
    obtain ⟨n, hn, rfl⟩ := List.mem_map.1 hx
    unfold killAt
    split
    · exact valid_killN (h1 n hn)
    · exact h1 n hn
  · unfold SrtN
    rw [List.pairwise_map]
    exact h2.imp fun {a b} k => by rw [killAt_dot, killAt_dot]; exact k
theorem kill_yes {l : List Nt} {dots : List Dt} (h : (killS l dots).2 = 0) : (∀ d ∈ dots, ∃ n ∈ l, n.1 = d) ∧ (killS l dots).1 = l.map (killAt dots) := by
  unfold killS at h ⊢
  split at h
  · rename_i hd
    rw [if_pos hd]
    refine ⟨fun d hd' => ?_, rfl⟩
    have := List.all_eq_true.1 hd d hd'
    rcases ha : atS l d with _ | n
    · rw [ha] at this; cases this
    · exact ⟨n, at_some ha⟩
  · cases h
theorem kill_no {l : List Nt} {dots : List Dt} (h : (killS l dots).2 ≠ 0) : killS l dots = ([], 9) := by
  unfold killS at h ⊢
  split
  · rename_i hd
    rw [if_pos hd] at h
    exact absurd rfl h
  · rfl
theorem kill_code {l : List Nt} {dots : List Dt} (d : Dt) (hd : d ∈ dots) (h : atS l d = none) : killS l dots = ([], 9) := by
  unfold killS
  rw [if_neg]
  intro k
  have := List.all_eq_true.1 k d hd
  rw [h] at this
  cases this
theorem kill_all {l : List Nt} {dots : List Dt} (h : ∀ d ∈ dots, atS l d ≠ none) : killS l dots = (l.map (killAt dots), 0) := by
  unfold killS
  rw [if_pos (List.all_eq_true.2 fun d hd => by
    rcases ha : atS l d with _ | n
    · exact absurd ha (h d hd)
    · rfl)]

/-! ### Dots, contexts -/
def dotsS (l : List Nt) (dead : Bool) : List Dt := (l.filter fun n => !dead || deadN n).map (·.1)
theorem mem_dots {l : List Nt} {dead : Bool} {d : Dt} : d ∈ dotsS l dead ↔ ∃ n ∈ l, (dead = false ∨ deadN n = true) ∧ n.1 = d := by
  unfold dotsS
  simp only [List.mem_map, List.mem_filter, Bool.or_eq_true, Bool.not_eq_true']
  constructor
  · rintro ⟨n, ⟨h1, h2⟩, h3⟩; exact ⟨n, h1, h2, h3⟩
  · rintro ⟨n, h1, h2, h3⟩; exact ⟨n, ⟨h1, h2⟩, h3⟩
theorem srt_dots {l : List Nt} (hs : SrtN l) (dead : Bool) : Srt (dotsS l dead) := by
  unfold dotsS Srt
  rw [List.pairwise_map]
  exact List.Pairwise.sublist List.filter_sublist hs
theorem dots_valid {l : List Nt} (h : validS l = true) (dead : Bool) : ∀ d ∈ dotsS l dead, validR d = true := fun d hd => by
  obtain ⟨n, hn, -, rfl⟩ := mem_dots.1 hd
  exact (valid_vn.1 ((validS_iff.1 h).1 n hn)).1
theorem dots_len (l : List Nt) (dead : Bool) : (dotsS l dead).length ≤ l.length := by
  unfold dotsS
  rw [List.length_map]
  exact List.length_filter_le _ _
def ctxS (l : List Nt) (dead : Bool) : F.Ct := F.addC ([], []) (dotsS l dead)
theorem vc_nil : F.Vc ([], []) := (F.valid_vc _).1 (by decide)
theorem ctx_has {l : List Nt} (h : validS l = true) (dead : Bool) (d : Dt) : F.hasC (ctxS l dead) d = true ↔ d ∈ dotsS l dead := by
  unfold ctxS
  rw [F.add_has vc_nil (dots_valid h dead)]
  constructor
  · rintro (k | k)
    · exfalso
      rw [F.hasC_iff] at k
      rcases k with ⟨k1, k2 | k2⟩
      · have := (F.hasV_iff.1 k2).2
        have h0 : E.getV [] d.1 = 0 := by first | rfl | simp [E.getV]
        rw [h0] at this
        unfold validR at k1
        simp at k1
        omega
      · cases k2
    · exact k
  · exact .inr
/-- What is killed is known as dead. -/
theorem kill_known {l : List Nt} (h : validS l = true) {dots : List Dt} (hk : (killS l dots).2 = 0) : ∀ d ∈ dots, F.hasC (ctxS (killS l dots).1 true) d = true := fun d hd => by
  obtain ⟨h1, h2⟩ := kill_yes hk
  obtain ⟨n, hn, rfl⟩ := h1 d hd
  rw [h2, ctx_has (kill_valid h dots), mem_dots]
  refine ⟨killAt dots n, List.mem_map.2 ⟨n, hn, rfl⟩, .inr ?_, killAt_dot dots n⟩
  unfold killAt
  rw [if_pos hd]
  rfl

/-! ### The greatest time -/
def timeS (l : List Nt) : Int := l.foldl (fun m n => if m < n.2.2.1 then n.2.2.1 else m) 0

/-! ### The parents that are lacking -/
def lacksS (l : List Nt) (n : Nt) : Bool := !rootR n.2.1 && (atS l n.2.1).isNone
def lackS (l : List Nt) : List Dt := l.foldl (fun o n => if lacksS l n = true then ins o n.2.1 else o) []
theorem lack_fold (q : Nt → Bool) : ∀ (t : List Nt) (o : List Dt), Srt o → Srt (t.foldl (fun o n => if q n = true then ins o n.2.1 else o) o) ∧ ∀ d, d ∈ t.foldl (fun o n => if q n = true then ins o n.2.1 else o) o ↔ d ∈ o ∨ ∃ n ∈ t, q n = true ∧ n.2.1 = d
  | [], o, h => ⟨h, fun d => by simp⟩
  | n :: t, o, h => by
    rw [List.foldl_cons]
    have h2 : Srt (if q n = true then ins o n.2.1 else o) := by split; exact srt_ins h _; exact h
    obtain ⟨k1, k2⟩ := lack_fold q t _ h2
    refine ⟨k1, fun d => ?_⟩
    rw [k2]
    constructor
    · rintro (h3 | ⟨x, hx, hy⟩)
      · split at h3
        · rename_i hq
          rcases mem_ins.1 h3 with h3 | h3
          · exact .inl h3
          · exact .inr ⟨n, by simp, hq, h3.symm⟩
        · exact .inl h3
      · exact .inr ⟨x, by simp [hx], hy⟩
    · rintro (h3 | ⟨x, hx, hq, e⟩)
      · left
        split
        · exact mem_ins.2 (.inl h3)
        · exact h3
      · rcases List.mem_cons.1 hx with rfl | hx
        · left
          rw [if_pos hq]
          exact mem_ins.2 (.inr e.symm)
        · exact .inr ⟨x, hx, hq, e⟩
theorem lack_srt (l : List Nt) : Srt (lackS l) := (lack_fold _ l [] srt_nil).1
theorem mem_lack {l : List Nt} {d : Dt} : d ∈ lackS l ↔ rootR d = false ∧ atS l d = none ∧ ∃ n ∈ l, n.2.1 = d := by
  unfold lackS
  rw [(lack_fold _ l [] srt_nil).2]
  constructor
  · rintro (h | ⟨n, hn, hq, rfl⟩)
    · cases h
    · unfold lacksS at hq
      rw [Bool.and_eq_true] at hq
      exact ⟨by simpa using hq.1, by simpa using hq.2, n, hn, rfl⟩
  · rintro ⟨h1, h2, n, hn, rfl⟩
    exact .inr ⟨n, hn, by unfold lacksS; rw [h1, h2]; rfl, rfl⟩
theorem lack_eq {l : List Nt} {m : List Dt} (hm : Srt m) (h : ∀ d, d ∈ m ↔ rootR d = false ∧ atS l d = none ∧ ∃ n ∈ l, n.2.1 = d) : m = lackS l := srt_ext hm (lack_srt l) fun x => by rw [h, mem_lack]
end Go.Proofs.YtodjccfaipkpfaaGreatDoor.Qs
end

/-
  Stores, plainly: what the laws ask; loops over lists.
-/
section
namespace Go.Proofs.YtodjccfaipkpfaaGreatDoor.Qs
set_option linter.unusedVariables false
open D Nd

/-! ### Loops -/
theorem foldl_take {α β : Type} (g : β → α → β) (o : β) (l : List α) (i : Nat) (hi : i < l.length) : (l.take (i + 1)).foldl g o = g ((l.take i).foldl g o) l[i] := by
  have e : l.take (i + 1) = l.take i ++ [l[i]] := by rw [List.take_add_one, List.getElem?_eq_getElem hi]; rfl
  rw [e, List.foldl_append]
  rfl
theorem posS_go {l : List Nt} {d : Dt} {i : Nat} (hi : i < l.length) (h : i ≤ posS l d) (hl : less l[i].1 d = true) : i + 1 ≤ posS l d :=
  pos_go (s := l.map fun n : Nt => n.1) (d := d) (i := i) (by simpa using hi) h (by simpa using hl)
theorem posS_stop {l : List Nt} {d : Dt} {i : Nat} (hi : i < l.length) (h : i ≤ posS l d) (hl : less l[i].1 d = false) : i = posS l d :=
  pos_stop (s := l.map fun n : Nt => n.1) (d := d) (i := i) (by simpa using hi) h (by simpa using hl)
theorem posS_end {l : List Nt} {d : Dt} {i : Nat} (hi : i = l.length) (h : i ≤ posS l d) : i = posS l d := by have := posS_le l d; omega
/-- The first index with a dot, by a loop. -/
def idxS (l : List Nt) (d : Dt) : Int := if (atS l d).isSome then ((l.takeWhile fun n => !decide (n.1 = d)).length : Int) else -1
theorem idx_hit {l : List Nt} {d : Dt} {i : Nat} (hi : i < l.length) (h : ∀ j (hj : j < l.length), j < i → l[j].1 ≠ d) (e : l[i].1 = d) : idxS l d = (i : Int) ∧ atS l d = some l[i] := by
  have hw : (l.takeWhile fun n => !decide (n.1 = d)).length = i ∧ atS l d = some l[i] := by
    induction l generalizing i with
    | nil => simp at hi
    | cons a t ih =>
      cases i with
      | zero =>
        simp only [List.getElem_cons_zero] at e ⊢
        refine ⟨by rw [List.takeWhile_cons, if_neg (by simp [e])]; rfl, ?_⟩
        unfold atS
        rw [List.find?_cons, decide_eq_true e]
      | succ i =>
        have h0 := h 0 (by simp) (by omega)
        simp only [List.getElem_cons_zero] at h0
        simp only [List.getElem_cons_succ] at e ⊢
        obtain ⟨k1, k2⟩ := ih (i := i) (by simpa using hi) (fun j hj hji => by have := h (j + 1) (by simpa using hj) (by omega); simpa using this) e
        refine ⟨by rw [List.takeWhile_cons, if_pos (by simp [h0]), List.length_cons, k1], ?_⟩
        unfold atS at k2 ⊢
        rw [List.find?_cons, decide_eq_false h0]
        exact k2
  unfold idxS
  rw [hw.2]
  exact ⟨by rw [hw.1]; rfl, rfl⟩
theorem idx_none {l : List Nt} {d : Dt} (h : ∀ j (hj : j < l.length), l[j].1 ≠ d) : idxS l d = -1 ∧ atS l d = none := by
  have : atS l d = none := at_none.2 fun n hn => by
    obtain ⟨j, hj, rfl⟩ := List.mem_iff_getElem.1 hn
    exact h j hj
  unfold idxS
  rw [this]
  exact ⟨rfl, rfl⟩
theorem idx_neg {l : List Nt} {d : Dt} : idxS l d < 0 ↔ atS l d = none := by
  unfold idxS
  rcases atS l d with _ | n
  · simp
  · simp only [Option.isSome_some, if_true]
    constructor
    · intro h; omega
    · intro h; cases h

/-! ### What the laws ask -/
theorem up_alive {l : List Nt} {n : Nt} (h : (putN l n).2 = 0) (ha : (upN l n).2.2.2 ≠ 0) : n.2.2.2 ≠ 0 ∧ ∀ r, atS l n.1 = some r → r.2.2.2 ≠ 0 := by
  unfold upN putN at *
  rcases hr : atS l n.1 with _ | r
  · rw [hr] at ha
    exact ⟨ha, fun _ h => by cases h⟩
  · simp only [hr] at h ha
    by_cases hm : (mergeN r n).2 = 0
    · rw [(merge_yes hm).2.2.2] at ha
      by_cases hz : n.2.2.2 = 0
      · rw [if_pos hz] at ha; exact absurd hz ha
      · rw [if_neg hz] at ha
        exact ⟨hz, fun _ h => by cases h; exact ha⟩
    · simp only [hm, if_false] at h
theorem up_at {l : List Nt} (hs : SrtN l) {n : Nt} (h : (putN l n).2 = 0) : atS (putN l n).1 n.1 = some (upN l n) := by rw [put_at hs h, if_pos rfl]
/-- The nodes turned, one of them twice, are the same nodes. -/
theorem back_mem {l : List Nt} {k : Nat} (hk : k < l.length) (x : Nt) : x ∈ (l[k] :: l.take k) ++ (l.drop k).reverse ↔ x ∈ l := by
  rw [List.mem_append, List.mem_cons, List.mem_reverse]
  constructor
  · rintro ((rfl | h) | h)
    · exact List.getElem_mem hk
    · exact List.mem_of_mem_take h
    · exact List.mem_of_mem_drop h
  · intro h
    rw [← List.take_append_drop k l] at h
    rcases List.mem_append.1 h with h | h
    · exact .inl (.inr h)
    · exact .inr h
/-- Nodes that are put one after the other: each goes, and the store is that of all so far. -/
theorem put_seq {l : List Nt} (h1 : ∀ x ∈ l, validN x = true) (h2 : agAll l) (i : Nat) (hi : i < l.length) :
    validS (foldN (l.take i) []) = true ∧ (putN (foldN (l.take i) []) l[i]).2 = 0 ∧ (putN (foldN (l.take i) []) l[i]).1 = foldN (l.take (i + 1)) [] := by
  have sub : ∀ j, (∀ x ∈ l.take j, validN x = true) ∧ agAll (l.take j) := fun j => ⟨fun x hx => h1 x (List.mem_of_mem_take hx), fun a ha b hb e => h2 a (List.mem_of_mem_take ha) b (List.mem_of_mem_take hb) e⟩
  obtain ⟨k1, k2, k3⟩ := of_ok (sub i).1 (sub i).2
  have e : l.take (i + 1) = l.take i ++ [l[i]] := by rw [List.take_add_one, List.getElem?_eq_getElem hi]; rfl
  have := step_ok k2 k3 (h1 _ (List.getElem_mem hi)) (by rw [← e]; exact (sub (i + 1)).2)
  refine ⟨k2, this.1, ?_⟩
  unfold foldN
  rw [foldl_take _ _ _ _ hi]
end Go.Proofs.YtodjccfaipkpfaaGreatDoor.Qs
end

/-
  How nodes hang together, plainly: paths, children, what is below.
-/
section
namespace Go.Proofs.YtodjccfaipkpfaaGreatDoor.Wk
set_option linter.unusedVariables false
open D Nd Qs

/-! ### Paths -/
def pathS (l : List Nt) : Nat → Dt → Option (List Dt)
  | 0, _ => none
  | n + 1, d => if rootR d = true then some [] else match atS l d with | none => none | some x => (pathS l n x.2.1).map (· ++ [d])
/-- The path to a dot. -/
def Pt (l : List Nt) (d : Dt) (p : List Dt) : Prop := ∃ n, pathS l n d = some p
theorem path_mono {l : List Nt} : ∀ {n m : Nat} {d : Dt} {p : List Dt}, pathS l n d = some p → n ≤ m → pathS l m d = some p
  | 0, _, _, _, h, _ => by cases h
  | n + 1, 0, _, _, h, hm => by omega
  | n + 1, m + 1, d, p, h, hm => by
    unfold pathS at h ⊢
    split
    · rename_i hr; rw [if_pos hr] at h; exact h
    · rename_i hr
      rw [if_neg hr] at h
      rcases ha : atS l d with _ | x
      · rw [ha] at h; cases h
      · simp only [ha] at h ⊢
        rcases hp : pathS l n x.2.1 with _ | q
        · rw [hp] at h; cases h
        · rw [path_mono hp (by omega)]
          rw [hp] at h
          exact h
theorem pt_uniq {l : List Nt} {d : Dt} {p q : List Dt} (h : Pt l d p) (k : Pt l d q) : p = q := by
  obtain ⟨n, hn⟩ := h
  obtain ⟨m, hm⟩ := k
  have h1 := path_mono hn (Nat.le_max_left n m)
  have h2 := path_mono hm (Nat.le_max_right n m)
  rw [h1] at h2
  exact Option.some.inj h2
theorem pt_root {l : List Nt} {d : Dt} (h : rootR d = true) : Pt l d [] := ⟨1, by unfold pathS; rw [if_pos h]⟩
theorem pt_step {l : List Nt} {x : Nt} {p : List Dt} (hs : SrtN l) (hx : x ∈ l) (hr : rootR x.1 = false) (h : Pt l x.2.1 p) : Pt l x.1 (p ++ [x.1]) := by
  obtain ⟨n, hn⟩ := h
  refine ⟨n + 1, ?_⟩
  unfold pathS
  rw [if_neg (by rw [hr]; decide), at_mem hs hx]
  simp only [hn, Option.map_some]
theorem pt_inv {l : List Nt} {d : Dt} {p : List Dt} (h : Pt l d p) : (rootR d = true ∧ p = []) ∨ (rootR d = false ∧ ∃ x q, atS l d = some x ∧ Pt l x.2.1 q ∧ p = q ++ [d]) := by
  obtain ⟨n, hn⟩ := h
  cases n with
  | zero => cases hn
  | succ n =>
    unfold pathS at hn
    split at hn
    · rename_i hr; exact .inl ⟨hr, (Option.some.inj hn).symm⟩
    · rename_i hr
      rcases ha : atS l d with _ | x
      · rw [ha] at hn; cases hn
      · simp only [ha] at hn
        rcases hp : pathS l n x.2.1 with _ | q
        · rw [hp] at hn; cases hn
        · rw [hp] at hn
          exact .inr ⟨by simpa using hr, x, q, rfl, ⟨n, hp⟩, (Option.some.inj hn).symm⟩
/-- Each dot of a path has its own path: what comes before it, and itself. -/
theorem pt_prefix {l : List Nt} : ∀ {p : List Dt} {d : Dt}, Pt l d p → ∀ {a : List Dt} {e : Dt} {b : List Dt}, p = a ++ e :: b → Pt l e (a ++ [e]) := by
  intro p
  induction hn : p.length using Nat.strongRecOn generalizing p with
  | _ n ih =>
    intro d h a e b hp
    rcases pt_inv h with ⟨_, rfl⟩ | ⟨_, x, q, h1, h2, rfl⟩
    · simp at hp
    · rcases List.eq_nil_or_concat b with rfl | ⟨b', c, rfl⟩
      · rw [show a ++ [e] = a ++ [e] from rfl] at hp
        obtain ⟨rfl, h3⟩ := List.append_inj' hp rfl
        simp only [List.cons.injEq, and_true] at h3
        subst h3
        exact h
      · rw [show a ++ e :: (b'.concat c) = (a ++ e :: b') ++ [c] by simp] at hp
        obtain ⟨h3, -⟩ := List.append_inj' hp rfl
        exact ih q.length (by rw [← hn]; simp) rfl h2 h3
theorem pt_last {l : List Nt} {d e : Dt} {a : List Dt} (h : Pt l d (a ++ [e])) : e = d := by
  rcases pt_inv h with ⟨_, h⟩ | ⟨_, x, q, h1, h2, h⟩
  · simp at h
  · obtain ⟨-, h3⟩ := List.append_inj' h rfl
    simpa using h3
theorem pt_mem {l : List Nt} {d : Dt} {p : List Dt} (h : Pt l d p) : ∀ e ∈ p, rootR e = false ∧ ∃ x ∈ l, x.1 = e := by
  intro e he
  obtain ⟨a, b, rfl⟩ := List.append_of_mem he
  rcases pt_inv (pt_prefix h rfl) with ⟨_, h⟩ | ⟨hr, x, q, h1, _, h⟩
  · simp at h
  · exact ⟨hr, x, at_some h1⟩
theorem at_parts {p : List Dt} {i : Nat} (hi : i < p.length) : p = p.take i ++ p[i] :: p.drop (i + 1) := by rw [← List.drop_eq_getElem_cons hi, List.take_append_drop]
theorem pt_nodup {l : List Nt} {d : Dt} {p : List Dt} (h : Pt l d p) : p.Pairwise (· ≠ ·) := by
  rw [List.pairwise_iff_getElem]
  intro i j hi hj hij e
  have k1 := pt_prefix h (at_parts hi)
  have k2 := pt_prefix h (at_parts hj)
  rw [← e] at k2
  have := congrArg List.length (pt_uniq k1 k2)
  simp only [List.length_append, List.length_take, List.length_cons, List.length_nil] at this
  omega
theorem nd_len {α : Type} : ∀ {a b : List α}, a.Pairwise (· ≠ ·) → (∀ x ∈ a, x ∈ b) → a.length ≤ b.length
  | [], _, _, _ => by simp
  | x :: t, b, h, hs => by
    rw [List.pairwise_cons] at h
    obtain ⟨b1, b2, rfl⟩ := List.append_of_mem (hs x (by simp))
    have := nd_len (a := t) (b := b1 ++ b2) h.2 (fun y hy => by
      have h1 := hs y (by simp [hy])
      have h2 := h.1 y hy
      simp only [List.mem_append, List.mem_cons] at h1 ⊢
      rcases h1 with h1 | h1 | h1
      · exact .inl h1
      · exact absurd h1.symm h2
      · exact .inr h1)
    simp only [List.length_append, List.length_cons] at this ⊢
    omega
theorem pt_len {l : List Nt} {d : Dt} {p : List Dt} (h : Pt l d p) : p.length ≤ l.length := by
  have := nd_len (b := l.map (·.1)) (pt_nodup h) (fun e he => by
    obtain ⟨-, x, hx, rfl⟩ := pt_mem h e he
    exact List.mem_map.2 ⟨x, hx, rfl⟩)
  rwa [List.length_map] at this
theorem pt_fuel {l : List Nt} : ∀ {p : List Dt} {d : Dt}, Pt l d p → pathS l (p.length + 1) d = some p := by
  intro p
  induction hn : p.length using Nat.strongRecOn generalizing p with
  | _ n ih =>
    intro d h
    rcases pt_inv h with ⟨hr, rfl⟩ | ⟨hr, x, q, h1, h2, rfl⟩
    · unfold pathS; rw [if_pos hr]
    · have := ih q.length (by rw [← hn]; simp) rfl h2
      unfold pathS
      rw [if_neg (by rw [hr]; decide), h1]
      simp only
      rw [show n = q.length + 1 by rw [← hn]; simp, this]
      rfl
/-- So many steps are enough. -/
theorem pt_iff {l : List Nt} {d : Dt} {p : List Dt} : Pt l d p ↔ pathS l (l.length + 1) d = some p := ⟨fun h => path_mono (pt_fuel h) (by have := pt_len h; omega), fun h => ⟨_, h⟩⟩
end Go.Proofs.YtodjccfaipkpfaaGreatDoor.Wk
end

/-
  The order of the tree, plainly.
-/
section
namespace Go.Proofs.YtodjccfaipkpfaaGreatDoor.Wk
set_option linter.unusedVariables false
open D Nd Qs

/-! ### Children -/
def insB (o : List Nt) (x : Nt) : List Nt := (o.takeWhile fun y => beforeN y x) ++ x :: (o.dropWhile fun y => beforeN y x)
theorem mem_insB {o : List Nt} {x y : Nt} : y ∈ insB o x ↔ y = x ∨ y ∈ o := by
  unfold insB
  rw [List.mem_append, List.mem_cons]
  have e := List.takeWhile_append_dropWhile (p := fun y => beforeN y x) (l := o)
  constructor
  · rintro (h | h | h)
    · right; rw [← e]; exact List.mem_append.2 (.inl h)
    · exact .inl h
    · right; rw [← e]; exact List.mem_append.2 (.inr h)
  · rintro (h | h)
    · exact .inr (.inl h)
    · rw [← e] at h
      rcases List.mem_append.1 h with h | h
      · exact .inl h
      · exact .inr (.inr h)
def SrtB (l : List Nt) : Prop := l.Pairwise fun a b => beforeN a b = true
theorem before_tri {a b : Nt} (hne : a.1 ≠ b.1) (h : beforeN a b = false) : beforeN b a = true := by
  have := before_one a b
  rw [h, Bool.false_or] at this
  rw [this]
  simp [hne]
theorem insB_srt {o : List Nt} {x : Nt} (hs : SrtB o) (hne : ∀ y ∈ o, y.1 ≠ x.1) : SrtB (insB o x) := by
  induction o with
  | nil => unfold insB SrtB; simp
  | cons a t ih =>
    unfold SrtB at hs
    rw [List.pairwise_cons] at hs
    have ih2 := ih hs.2 fun y hy => hne y (by simp [hy])
    rcases hb : beforeN a x with _ | _
    · have e : insB (a :: t) x = x :: a :: t := by unfold insB; rw [List.takeWhile_cons, List.dropWhile_cons, hb]; rfl
      have hxa := before_tri (hne a (by simp)) hb
      rw [e]
      unfold SrtB
      rw [List.pairwise_cons, List.pairwise_cons]
      refine ⟨fun y hy => ?_, hs⟩
      rcases List.mem_cons.1 hy with rfl | hy
      · exact hxa
      · exact before_trans hxa (hs.1 y hy)
    · have e : insB (a :: t) x = a :: insB t x := by unfold insB; rw [List.takeWhile_cons, List.dropWhile_cons, hb]; rfl
      rw [e]
      unfold SrtB
      rw [List.pairwise_cons]
      refine ⟨fun y hy => ?_, ih2⟩
      rcases mem_insB.1 hy with rfl | hy
      · exact hb
      · exact hs.1 y hy
def childF (d : Dt) (o : List Nt) (n : Nt) : List Nt := if n.2.1 = d then insB o n else o
def childS (l : List Nt) (d : Dt) : List Nt := l.foldl (childF d) []
theorem child_fold (d : Dt) : ∀ (t o : List Nt), SrtB o → t.Pairwise (fun a b => a.1 ≠ b.1) → (∀ y ∈ o, ∀ x ∈ t, y.1 ≠ x.1) → SrtB (t.foldl (childF d) o) ∧ ∀ x, x ∈ t.foldl (childF d) o ↔ x ∈ o ∨ (x ∈ t ∧ x.2.1 = d)
  | [], o, h1, _, _ => ⟨h1, fun x => by simp⟩
  | n :: t, o, h1, h2, h3 => by
    rw [List.pairwise_cons] at h2
    have k1 : SrtB (childF d o n) := by
      unfold childF
      split
      · exact insB_srt h1 fun y hy => h3 y hy n (by simp)
      · exact h1
    have k2 : ∀ y, y ∈ childF d o n ↔ y ∈ o ∨ (y = n ∧ n.2.1 = d) := fun y => by
      unfold childF
      split
      · rename_i e
        rw [mem_insB]
        exact ⟨fun h => h.elim (fun h => .inr ⟨h, e⟩) .inl, fun h => h.elim .inr fun h => .inl h.1⟩
      · rename_i e
        exact ⟨.inl, fun h => h.elim id fun h => absurd h.2 e⟩
    obtain ⟨m1, m2⟩ := child_fold d t (childF d o n) k1 h2.2 fun y hy x hx => by
      rcases (k2 y).1 hy with h | ⟨rfl, -⟩
      · exact h3 y h x (by simp [hx])
      · exact h2.1 x hx
    refine ⟨m1, fun x => ?_⟩
    rw [List.foldl_cons, m2, k2, List.mem_cons]
    constructor
    · rintro ((h | ⟨rfl, h⟩) | ⟨h, e⟩)
      · exact .inl h
      · exact .inr ⟨.inl rfl, h⟩
      · exact .inr ⟨.inr h, e⟩
    · rintro (h | ⟨rfl | h, e⟩)
      · exact .inl (.inl h)
      · exact .inl (.inr ⟨rfl, e⟩)
      · exact .inr ⟨h, e⟩
theorem srt_ne {l : List Nt} (hs : SrtN l) : l.Pairwise fun a b => a.1 ≠ b.1 := hs.imp fun h => less_ne h
theorem mem_child {l : List Nt} (hs : SrtN l) {d : Dt} {x : Nt} : x ∈ childS l d ↔ x ∈ l ∧ x.2.1 = d := by
  unfold childS
  rw [(child_fold d l [] List.Pairwise.nil (srt_ne hs) (by simp)).2]
  simp
theorem srt_child {l : List Nt} (hs : SrtN l) (d : Dt) : SrtB (childS l d) := (child_fold d l [] List.Pairwise.nil (srt_ne hs) (by simp)).1
theorem srtB_ext : ∀ {l m : List Nt}, SrtB l → SrtB m → (∀ x, x ∈ l ↔ x ∈ m) → l = m
  | [], [], _, _, _ => rfl
  | [], b :: m, _, _, h => absurd ((h b).2 (by simp)) (by simp)
  | a :: l, [], _, _, h => absurd ((h a).1 (by simp)) (by simp)
  | a :: l, b :: m, hl, hm, h => by
    unfold SrtB at hl hm
    rw [List.pairwise_cons] at hl hm
    have hab : a = b := by
      rcases List.mem_cons.1 ((h a).1 (by simp)) with e | e
      · exact e
      · rcases List.mem_cons.1 ((h b).2 (by simp)) with e2 | e2
        · exact e2.symm
        · have h1 := hm.1 a e
          have h2 := hl.1 b e2
          rw [before_asymm h1] at h2
          cases h2
    subst hab
    congr 1
    have irr : ∀ x, beforeN a x = true → x ≠ a := fun x hx e => by rw [e, before_irr] at hx; cases hx
    refine srtB_ext hl.2 hm.2 fun x => ?_
    constructor
    · intro hx
      exact (List.mem_cons.1 ((h x).1 (List.mem_cons_of_mem _ hx))).resolve_left (irr x (hl.1 x hx))
    · intro hx
      exact (List.mem_cons.1 ((h x).2 (List.mem_cons_of_mem _ hx))).resolve_left (irr x (hm.1 x hx))
/-- The children, by what they are. -/
theorem child_eq {l m : List Nt} (hs : SrtN l) {d : Dt} (hm : SrtB m) (h : ∀ x, x ∈ m ↔ x ∈ l ∧ x.2.1 = d) : m = childS l d := srtB_ext hm (srt_child hs d) fun x => by rw [h, mem_child hs]
theorem child_nodup {l : List Nt} (hs : SrtN l) (d : Dt) : (childS l d).Pairwise fun a b => a.1 ≠ b.1 := by
  have h1 : (childS l d).Pairwise fun a b => beforeN a b = true := srt_child hs d
  refine List.Pairwise.imp_of_mem (fun {a b} ha hb h e => ?_) h1
  have := srt_one hs ((mem_child hs).1 ha).1 ((mem_child hs).1 hb).1 e
  rw [this, before_irr] at h
  cases h

/-! ### What is below -/
def belowS (l : List Nt) : Nat → Dt → List Nt
  | 0, _ => []
  | n + 1, d => (childS l d).flatMap fun c => c :: belowS l n c.1
def Bw (l : List Nt) (d : Dt) : List Nt := belowS l (l.length + 1) d
def orderS (l : List Nt) : List Nt := Bw l (0, 0)
theorem not_root {n : Nt} (h : validN n = true) : rootR n.1 = false := by
  have := (valid_vn.1 h).1
  rw [← Bool.not_eq_true]
  intro hr
  unfold validR at this
  unfold rootR at hr
  simp at this hr
  omega
theorem root_eq {d : Dt} (h : rootR d = true) : d = (0, 0) := by
  unfold rootR at h
  simp at h
  exact Prod.ext h.1 h.2
theorem child_path {l : List Nt} (hv : validS l = true) {d : Dt} {p : List Dt} (hp : Pt l d p) {c : Nt} (hc : c ∈ childS l d) : Pt l c.1 (p ++ [c.1]) := by
  obtain ⟨h1, h2⟩ := validS_iff.1 hv
  obtain ⟨k1, rfl⟩ := (mem_child h2).1 hc
  exact pt_step h2 k1 (not_root (h1 c k1)) hp
theorem below_stable {l : List Nt} (hv : validS l = true) : ∀ (n m : Nat) (d : Dt) (p : List Dt), Pt l d p → l.length + 1 ≤ n + p.length → l.length + 1 ≤ m + p.length → belowS l n d = belowS l m d
  | 0, m, d, p, hp, hn, hm => by have := pt_len hp; omega
  | n + 1, 0, d, p, hp, hn, hm => by have := pt_len hp; omega
  | n + 1, m + 1, d, p, hp, hn, hm => by
    rw [belowS, belowS]
    have e : ∀ c ∈ childS l d, c :: belowS l n c.1 = c :: belowS l m c.1 := fun c hc => by
      rw [below_stable hv n m c.1 (p ++ [c.1]) (child_path hv hp hc) (by simp; omega) (by simp; omega)]
    unfold List.flatMap
    rw [List.map_congr_left e]
theorem bw_eq {l : List Nt} (hv : validS l = true) {d : Dt} {p : List Dt} (hp : Pt l d p) : Bw l d = (childS l d).flatMap fun c => c :: Bw l c.1 := by
  have hl := pt_len hp
  rw [show Bw l d = belowS l (l.length + 1 + 1) d from below_stable hv _ _ d p hp (by omega) (by omega), belowS]
  rfl
/-- What is below has a longer path. -/
theorem bw_path {l : List Nt} (hv : validS l = true) : ∀ (k : Nat) {d : Dt} {p : List Dt}, Pt l d p → l.length + 1 ≤ k + p.length → ∀ x ∈ Bw l d, x ∈ l ∧ ∃ r, r ≠ [] ∧ Pt l x.1 (p ++ r)
  | 0, d, p, hp, hk, x, hx => by have := pt_len hp; omega
  | k + 1, d, p, hp, hk, x, hx => by
    rw [bw_eq hv hp, List.mem_flatMap] at hx
    obtain ⟨c, hc, hx⟩ := hx
    have hcp := child_path hv hp hc
    rcases List.mem_cons.1 hx with rfl | hx
    · exact ⟨((mem_child (validS_iff.1 hv).2).1 hc).1, [x.1], by simp, hcp⟩
    · obtain ⟨h1, r, h2, h3⟩ := bw_path hv k hcp (by simp; omega) x hx
      exact ⟨h1, c.1 :: r, by simp, by rw [show p ++ c.1 :: r = p ++ [c.1] ++ r by simp]; exact h3⟩
theorem pt_same {l : List Nt} {d e : Dt} {p : List Dt} (h : Pt l d p) (k : Pt l e p) : d = e := by
  rcases List.eq_nil_or_concat p with rfl | ⟨q, z, rfl⟩
  · rcases pt_inv h with ⟨h1, -⟩ | ⟨_, x, q, _, _, h2⟩
    · rcases pt_inv k with ⟨k1, -⟩ | ⟨_, x, q, _, _, k2⟩
      · rw [root_eq h1, root_eq k1]
      · simp at k2
    · simp at h2
  · rw [List.concat_eq_append] at h k
    rw [← pt_last h, ← pt_last k]
theorem bw_mem {l : List Nt} (hv : validS l = true) : ∀ (r : List Dt) {d : Dt} {p : List Dt}, Pt l d p → ∀ x ∈ l, r ≠ [] → Pt l x.1 (p ++ r) → x ∈ Bw l d
  | [], d, p, hp, x, hx, hr, h => absurd rfl hr
  | e :: r, d, p, hp, x, hx, _, h => by
    obtain ⟨h1, h2⟩ := validS_iff.1 hv
    have he := pt_prefix h (a := p) (e := e) (b := r) rfl
    rcases pt_inv he with ⟨_, k⟩ | ⟨_, c, q, k1, k2, k3⟩
    · simp at k
    · obtain ⟨rfl, -⟩ := List.append_inj' k3 rfl
      obtain ⟨c1, rfl⟩ := at_some k1
      have hc : c ∈ childS l d := (mem_child h2).2 ⟨c1, pt_same k2 hp⟩
      rw [bw_eq hv hp, List.mem_flatMap]
      refine ⟨c, hc, ?_⟩
      by_cases hr : r = []
      · subst hr
        have := pt_last h
        rw [srt_one h2 hx c1 this.symm]
        simp
      · right
        exact bw_mem hv r he x hx hr (by rw [show p ++ [c.1] ++ r = p ++ c.1 :: r by simp]; exact h)
theorem order_mem {l : List Nt} (hv : validS l = true) {x : Nt} : x ∈ orderS l ↔ x ∈ l ∧ ∃ p, Pt l x.1 p := by
  have hr : Pt l (0, 0) [] := pt_root (by decide)
  constructor
  · intro h
    obtain ⟨h1, r, -, h2⟩ := bw_path hv _ hr (Nat.le_refl _) x h
    exact ⟨h1, _, h2⟩
  · rintro ⟨h1, p, h2⟩
    refine bw_mem hv p hr x h1 ?_ (by simpa using h2)
    rintro rfl
    rcases pt_inv h2 with ⟨k, -⟩ | ⟨_, y, q, _, _, k⟩
    · rw [not_root ((validS_iff.1 hv).1 x h1)] at k; cases k
    · simp at k
theorem bw_nodup {l : List Nt} (hv : validS l = true) : ∀ (k : Nat) {d : Dt} {p : List Dt}, Pt l d p → l.length + 1 ≤ k + p.length → (Bw l d).Pairwise fun a b => a.1 ≠ b.1
  | 0, d, p, hp, hk => by have := pt_len hp; omega
  | k + 1, d, p, hp, hk => by
    have hs := (validS_iff.1 hv).2
    rw [bw_eq hv hp, List.pairwise_flatMap]
    have inside : ∀ c ∈ childS l d, ∀ x ∈ c :: Bw l c.1, ∃ r, Pt l x.1 (p ++ c.1 :: r) := fun c hc x hx => by
      have hcp := child_path hv hp hc
      rcases List.mem_cons.1 hx with rfl | hx
      · exact ⟨[], hcp⟩
      · obtain ⟨-, r, -, h⟩ := bw_path hv k hcp (by simp; omega) x hx
        exact ⟨r, by rw [show p ++ c.1 :: r = p ++ [c.1] ++ r by simp]; exact h⟩
    constructor
    · intro c hc
      have hcp := child_path hv hp hc
      rw [List.pairwise_cons]
      refine ⟨fun x hx e => ?_, bw_nodup hv k hcp (by simp; omega)⟩
      obtain ⟨-, r, hr, h⟩ := bw_path hv k hcp (by simp; omega) x hx
      rw [← e] at h
      have := congrArg List.length (pt_uniq hcp h)
      simp at this
      exact hr this
    · refine List.Pairwise.imp_of_mem (fun {a b} ha hb hne x hx y hy e => ?_) (child_nodup hs d)
      obtain ⟨r1, h1⟩ := inside a ha x hx
      obtain ⟨r2, h2⟩ := inside b hb y hy
      rw [e] at h1
      have := List.append_cancel_left (pt_uniq h1 h2)
      simp only [List.cons.injEq] at this
      exact hne this.1
/-- Where a node stands: what is below it follows, its parent comes before. -/
theorem bw_at {l : List Nt} (hv : validS l = true) : ∀ (k : Nat) {d : Dt} {p : List Dt}, Pt l d p → l.length + 1 ≤ k + p.length → ∀ x ∈ Bw l d, ∃ A B, Bw l d = A ++ x :: (Bw l x.1 ++ B) ∧ (x.2.1 = d ∨ ∃ y ∈ A, y.1 = x.2.1)
  | 0, d, p, hp, hk, x, hx => by have := pt_len hp; omega
  | k + 1, d, p, hp, hk, x, hx => by
    have hb := bw_eq hv hp
    rw [hb, List.mem_flatMap] at hx
    obtain ⟨c, hc, hx⟩ := hx
    have hcp := child_path hv hp hc
    obtain ⟨C1, C2, e⟩ := List.append_of_mem hc
    have hf : Bw l d = (C1.flatMap fun c => c :: Bw l c.1) ++ (c :: Bw l c.1) ++ (C2.flatMap fun c => c :: Bw l c.1) := by
      rw [hb, e, List.flatMap_append, List.flatMap_cons]
      simp
    rcases List.mem_cons.1 hx with rfl | hx
    · exact ⟨C1.flatMap fun c => c :: Bw l c.1, C2.flatMap fun c => c :: Bw l c.1, by rw [hf]; simp, .inl ((mem_child (validS_iff.1 hv).2).1 hc).2⟩
    · obtain ⟨A, B, h1, h2⟩ := bw_at hv k hcp (by simp; omega) x hx
      refine ⟨(C1.flatMap fun c => c :: Bw l c.1) ++ c :: A, B ++ (C2.flatMap fun c => c :: Bw l c.1), ?_, .inr ?_⟩
      · rw [hf, h1]
        simp
      · rcases h2 with h2 | ⟨y, hy, h2⟩
        · exact ⟨c, by simp, h2.symm⟩
        · exact ⟨y, by simp [hy], h2⟩
end Go.Proofs.YtodjccfaipkpfaaGreatDoor.Wk
end

/-
  Ordered lists of nodes, plainly: where a node belongs, a node more.
-/
section
namespace Go.Proofs.YtodjccfaipkpfaaGreatDoor.Un
set_option linter.unusedVariables false
open D Nd Qs Wk

/-- How many nodes come before a node. -/
def rank (l : List Nt) (k : Nt) : Nat := (l.takeWhile fun p => beforeN p k).length
theorem rank_le (l : List Nt) (k : Nt) : rank l k ≤ l.length := by
  unfold rank
  induction l with
  | nil => simp
  | cons a t ih =>
    simp only [List.takeWhile_cons]
    split
    · simp only [List.length_cons]; omega
    · simp
theorem rank_lo {k : Nt} : ∀ {l : List Nt} {i : Nat} (h : i < l.length), i < rank l k → beforeN l[i] k = true
  | a :: t, 0, h, hi => by
    simp only [rank, List.takeWhile_cons] at hi
    split at hi
    · assumption
    · simp at hi
  | a :: t, i + 1, h, hi => by
    simp only [rank, List.takeWhile_cons] at hi
    split at hi
    · exact rank_lo (l := t) (by simpa using h) (by simpa [rank] using hi)
    · simp at hi
theorem rank_at {k : Nt} : ∀ {l : List Nt} (h : rank l k < l.length), beforeN l[rank l k] k = false
  | [], h => by simp at h
  | a :: t, h => by
    rcases ha : beforeN a k with _ | _
    · have e : rank (a :: t) k = 0 := by simp [rank, ha]
      simp only [e, List.getElem_cons_zero, ha]
    · have e : rank (a :: t) k = rank t k + 1 := by simp [rank, ha]
      simp only [e, List.getElem_cons_succ]
      exact rank_at (l := t) (by rw [e] at h; simpa using h)
/-- What a search finds is the rank. -/
theorem rank_eq {k : Nt} {l : List Nt} {i : Nat} (hi : i ≤ l.length) (h1 : ∀ j (hj : j < l.length), j < i → beforeN l[j] k = true) (h2 : ∀ hj : i < l.length, beforeN l[i] k = false) : rank l k = i := by
  rcases Nat.lt_trichotomy (rank l k) i with h | h | h
  · have := h1 (rank l k) (by omega) h
    rw [rank_at (by omega)] at this
    cases this
  · exact h
  · have hl := rank_le l k
    have := rank_lo (k := k) (l := l) (i := i) (by omega) h
    rw [h2 (by omega)] at this
    cases this
section
variable {l r : List Nt} {p k : Nt}
theorem rank_l (h : beforeN p k = false) : rank (l ++ p :: r) k = rank l k := by
  have h0 := rank_le l k
  refine rank_eq (by rw [List.length_append]; omega) (fun j hj hji => ?_) fun hj => ?_
  · rw [List.getElem_append_left (by omega)]
    exact rank_lo (by omega) hji
  · by_cases h1 : rank l k < l.length
    · rw [List.getElem_append_left h1]
      exact rank_at h1
    · have e : rank l k = l.length := by omega
      simp only [e]
      rw [List.getElem_append_right (Nat.le_refl _)]
      simpa using h
theorem rank_r (hs : SrtB (l ++ p :: r)) (h : beforeN p k = true) : rank (l ++ p :: r) k = l.length + 1 + rank r k := by
  have h0 := rank_le r k
  unfold SrtB at hs
  rw [List.pairwise_append] at hs
  refine rank_eq (by rw [List.length_append, List.length_cons]; omega) (fun j hj hji => ?_) fun hj => ?_
  · rcases Nat.lt_trichotomy j l.length with h1 | h1 | h1
    · rw [List.getElem_append_left h1]
      exact before_trans (hs.2.2 _ (List.getElem_mem h1) p (by simp)) h
    · subst h1
      rw [List.getElem_append_right (Nat.le_refl _)]
      simpa using h
    · rw [List.getElem_append_right (by omega)]
      obtain ⟨m, hm⟩ : ∃ m, j - l.length = m + 1 := ⟨j - l.length - 1, by omega⟩
      simp only [hm, List.getElem_cons_succ]
      exact rank_lo (by omega) (by omega)
  · rw [List.getElem_append_right (by omega)]
    simp only [show l.length + 1 + rank r k - l.length = rank r k + 1 by omega, List.getElem_cons_succ]
    exact rank_at _
theorem srt_parts (hs : SrtB (l ++ p :: r)) : SrtB l ∧ SrtB r := by
  unfold SrtB at *
  rw [List.pairwise_append, List.pairwise_cons] at hs
  exact ⟨hs.1, hs.2.1.2⟩
end
/-- No node of the list has the dot of this one. -/
def Fr (l : List Nt) (k : Nt) : Prop := ∀ p ∈ l, p.1 ≠ k.1
theorem Fr.parts {l r : List Nt} {p k : Nt} (h : Fr (l ++ p :: r) k) : Fr l k ∧ p.1 ≠ k.1 ∧ Fr r k := ⟨fun q hq => h q (by simp [hq]), h p (by simp), fun q hq => h q (by simp [hq])⟩

theorem take_lt {l m : List Nt} {p : Nt} {n : Nat} (h : n ≤ l.length) : (l ++ p :: m).take n = l.take n := by rw [List.take_append_of_le_length h]
theorem drop_lt {l m : List Nt} {p : Nt} {n : Nat} (h : n ≤ l.length) : (l ++ p :: m).drop n = l.drop n ++ p :: m := by rw [List.drop_append_of_le_length h]
theorem take_gt {l m : List Nt} {p : Nt} {n : Nat} : (l ++ p :: m).take (l.length + 1 + n) = l ++ p :: m.take n := by
  rw [List.take_append, List.take_of_length_le (by omega), show l.length + 1 + n - l.length = n + 1 by omega, List.take_succ_cons]
theorem drop_gt {l m : List Nt} {p : Nt} {n : Nat} : (l ++ p :: m).drop (l.length + 1 + n) = m.drop n := by
  rw [List.drop_append, List.drop_eq_nil_of_le (by omega), show l.length + 1 + n - l.length = n + 1 by omega, List.drop_succ_cons, List.nil_append]
/-- The list with an entry more. -/
def insAt (L : List Nt) (n : Nat) (k : Nt) : List Nt := L.take n ++ k :: L.drop n
theorem insAt_len (L : List Nt) (n : Nat) (k : Nt) : (insAt L n k).length = L.length + 1 := by
  unfold insAt
  rw [List.length_append, List.length_cons, List.length_take, List.length_drop]
  omega
theorem insAt_lt {l m : List Nt} {p : Nt} {n : Nat} (h : n ≤ l.length) (k : Nt) : insAt (l ++ p :: m) n k = insAt l n k ++ p :: m := by
  unfold insAt
  rw [take_lt h, drop_lt h]
  simp
theorem insAt_gt {l m : List Nt} {p : Nt} {n : Nat} (k : Nt) : insAt (l ++ p :: m) (l.length + 1 + n) k = l ++ p :: insAt m n k := by
  unfold insAt
  rw [take_gt, drop_gt]
  simp
theorem cut_of {a b L : List Nt} (h : a ++ b = L) : L.take a.length = a ∧ L.drop a.length = b := by
  subst h
  exact ⟨List.take_left, List.drop_left⟩
theorem insAt_rank (L : List Nt) (k : Nt) : insAt L (rank L k) k = insB L k := by
  obtain ⟨h1, h2⟩ := cut_of (List.takeWhile_append_dropWhile (p := fun p => beforeN p k) (l := L))
  unfold insAt insB rank
  rw [h1, h2]
end Go.Proofs.YtodjccfaipkpfaaGreatDoor.Un
end

/-
  Stores, plainly: nodes with different dots as they have come so far; where the node with a dot is.
-/
section
namespace Go.Proofs.YtodjccfaipkpfaaGreatDoor.Qs
set_option linter.unusedVariables false
open D Nd

/-- Where the node with a dot is. -/
def idxG (l : List Nt) (d : Dt) : Option Int := (l.findIdx? fun x => decide (x.1 = d)).map Int.ofNat
theorem idxG_none {l : List Nt} {d : Dt} : idxG l d = none ↔ atS l d = none := by
  unfold idxG atS
  rw [Option.map_eq_none_iff, List.findIdx?_eq_none_iff, List.find?_eq_none]
  constructor
  · intro h x hx; simpa using h x hx
  · intro h x hx; simpa using h x hx
theorem idxG_some {l : List Nt} {d : Dt} {i : Int} (h : idxG l d = some i) : ∃ k, ∃ hk : k < l.length, i = (k : Int) ∧ l[k].1 = d ∧ atS l d = some l[k] := by
  unfold idxG at h
  obtain ⟨k, h1, rfl⟩ := Option.map_eq_some_iff.1 h
  obtain ⟨hk, h2, h3⟩ := List.findIdx?_eq_some_iff_getElem.1 h1
  refine ⟨k, hk, rfl, by simpa using h2, ?_⟩
  refine (idx_hit hk (fun j hj hjk => ?_) (by simpa using h2)).2
  simpa using h3 j hjk
/-- No two nodes have one dot. -/
def DN (l : List Nt) : Prop := (l.map (·.1)).Nodup
theorem dn_nil : DN [] := List.nodup_nil
theorem dn_at {l : List Nt} (h : DN l) {i j : Nat} (hi : i < l.length) (hj : j < l.length) (e : l[i].1 = l[j].1) : i = j := by
  have h2 : (l.map (·.1)).Nodup := h
  rw [List.nodup_iff_pairwise_ne, List.pairwise_iff_getElem] at h2
  rcases Nat.lt_trichotomy i j with k | k | k
  · have := h2 i j (by simpa using hi) (by simpa using hj) k
    simp only [List.getElem_map] at this
    exact absurd e this
  · exact k
  · have := h2 j i (by simpa using hj) (by simpa using hi) k
    simp only [List.getElem_map] at this
    exact absurd e.symm this
theorem dn_of {l : List Nt} (h : ∀ i j (hi : i < l.length) (hj : j < l.length), i < j → l[i].1 ≠ l[j].1) : DN l := by
  unfold DN
  rw [List.nodup_iff_pairwise_ne, List.pairwise_iff_getElem]
  intro i j hi hj hij
  simp only [List.getElem_map]
  exact h i j (by simpa using hi) (by simpa using hj) hij
theorem dn_srt {l : List Nt} (h : SrtN l) : DN l := dn_of fun i j hi hj hij => less_ne (List.pairwise_iff_getElem.1 h i j hi hj hij)
theorem dn_take {l : List Nt} (h : DN l) (k : Nat) : DN (l.take k) := by
  unfold DN at *
  rw [List.map_take]
  exact List.Sublist.nodup (List.take_sublist _ _) h
theorem dn_mem {l : List Nt} (h : DN l) {k : Nat} (hk : k < l.length) : atS l l[k].1 = some l[k] := (idx_hit hk (fun j hj hjk e => by have := dn_at h hj hk e; omega) rfl).2
theorem idxG_mem {l : List Nt} (h : DN l) {k : Nat} (hk : k < l.length) : idxG l l[k].1 = some (k : Int) := by
  rcases e : idxG l l[k].1 with _ | i
  · rw [idxG_none] at e
    exact absurd rfl (at_none.1 e _ (List.getElem_mem hk))
  · obtain ⟨j, hj, rfl, e2, -⟩ := idxG_some e
    rw [dn_at h hj hk e2]
theorem idxG_app {l : List Nt} {n : Nt} (h : atS l n.1 = none) (d : Dt) : idxG (l ++ [n]) d = if d = n.1 then some (l.length : Int) else idxG l d := by
  have h0 := at_none.1 h
  unfold idxG
  rw [List.findIdx?_append]
  by_cases hd : d = n.1
  · subst hd
    have : List.findIdx? (fun x : Nt => decide (x.1 = n.1)) l = none := by
      rw [List.findIdx?_eq_none_iff]; intro x hx; simpa using h0 x hx
    rw [this]
    simp
  · rw [if_neg hd]
    have h1 : List.findIdx? (fun x : Nt => decide (x.1 = d)) [n] = none := by
      rw [List.findIdx?_eq_none_iff]; intro x hx; simp at hx; subst hx; simpa using fun e => hd e.symm
    rw [h1]
    simp
theorem dn_app {l : List Nt} {n : Nt} (hl : DN l) (h : atS l n.1 = none) : DN (l ++ [n]) := by
  unfold DN at *
  rw [List.map_append, List.nodup_append]
  refine ⟨hl, by simp, fun a ha b hb => ?_⟩
  obtain ⟨x, hx, rfl⟩ := List.mem_map.1 ha
  simp at hb
  subst hb
  exact at_none.1 h x hx
theorem idxG_take {l : List Nt} (h : DN l) {k : Nat} (hk : k < l.length) (d : Dt) : idxG (l.take (k + 1)) d = if d = l[k].1 then some (k : Int) else idxG (l.take k) d := by
  have e : l.take (k + 1) = l.take k ++ [l[k]] := by rw [List.take_add_one, List.getElem?_eq_getElem hk]; rfl
  have hn : atS (l.take k) l[k].1 = none := at_none.2 fun x hx hxe => by
    obtain ⟨j, hj, rfl⟩ := List.mem_iff_getElem.1 hx
    rw [List.length_take] at hj
    rw [List.getElem_take] at hxe
    have := dn_at h (by omega) hk hxe
    omega
  rw [e, idxG_app hn, List.length_take, Nat.min_eq_left (Nat.le_of_lt hk)]
theorem dn_set {l : List Nt} {k : Nat} {m : Nt} (hl : DN l) (hk : k < l.length) (e : m.1 = l[k].1) : DN (l.set k m) := by
  have : (l.set k m).map (·.1) = l.map (·.1) := by
    rw [List.map_set, e]
    apply List.ext_getElem (by simp)
    intro i h1 h2
    rw [List.getElem_set]
    split
    · rename_i h; subst h; simp
    · rfl
  unfold DN at *
  rw [this]; exact hl
theorem idxG_set {l : List Nt} {k : Nat} {m : Nt} (hk : k < l.length) (e : m.1 = l[k].1) : idxG (l.set k m) = idxG l := by
  have : ∀ (l : List Nt) (k : Nat) (hk : k < l.length) (d : Dt), m.1 = l[k].1 → (l.set k m).findIdx? (fun x => decide (x.1 = d)) = l.findIdx? (fun x => decide (x.1 = d)) := by
    intro l
    induction l with
    | nil => intro k hk; simp at hk
    | cons a t ih =>
      intro k hk d e
      cases k with
      | zero =>
        simp only [List.getElem_cons_zero] at e
        rw [List.set_cons_zero, List.findIdx?_cons, List.findIdx?_cons, e]
      | succ k =>
        simp only [List.getElem_cons_succ] at e
        rw [List.set_cons_succ, List.findIdx?_cons, List.findIdx?_cons, ih k (by simpa using hk) d e]
  funext d
  unfold idxG
  rw [this l k hk d e]
theorem at_set {l : List Nt} {k : Nat} {m : Nt} (hl : DN l) (hk : k < l.length) (e : m.1 = l[k].1) (d : Dt) : atS (l.set k m) d = if d = m.1 then some m else atS l d := by
  have h2 := dn_set hl hk e
  have hk2 : k < (l.set k m).length := by simpa using hk
  by_cases hd : d = m.1
  · subst hd
    rw [if_pos rfl]
    have := dn_mem h2 hk2
    simpa using this
  · rw [if_neg hd]
    rcases hx : atS l d with _ | x
    · rw [at_none] at hx ⊢
      intro y hy
      rcases List.mem_or_eq_of_mem_set hy with h | rfl
      · exact hx y h
      · exact fun e => hd e.symm
    · obtain ⟨h3, h4⟩ := at_some hx
      obtain ⟨j, hj, rfl⟩ := List.mem_iff_getElem.1 h3
      have hjk : j ≠ k := by rintro rfl; exact hd (h4.symm.trans e.symm)
      have hj2 : j < (l.set k m).length := by simpa using hj
      have := dn_mem h2 hj2
      rw [List.getElem_set_ne (by omega)] at this
      rw [← h4]; exact this

/-! ### A gathering -/
/-- The nodes ns are what the nodes pre are merged to, dot by dot. -/
structure Gd (ns pre : List Nt) : Prop where
  dn : DN ns
  ag : agAll pre
  vd : ∀ x ∈ pre, validN x = true
  at_ : ∀ d, atS ns d = mg pre d
  len : ns.length ≤ pre.length
theorem gd_nil : Gd [] [] := ⟨dn_nil, (fun a ha => by cases ha), (fun a ha => by cases ha), (fun d => rfl), Nat.le_refl _⟩
theorem gd_fold {ns pre : List Nt} (h : Gd ns pre) : validS (foldN pre []) = true ∧ ∀ d, atS (foldN pre []) d = atS ns d := by
  obtain ⟨-, h2, h3⟩ := of_ok h.vd h.ag
  exact ⟨h2, fun d => by rw [h3, h.at_]⟩
theorem gd_mem {ns pre : List Nt} (h : Gd ns pre) {n : Nt} (hn : n ∈ ns) : validN n = true := by
  obtain ⟨h1, h2⟩ := gd_fold h
  obtain ⟨i, hi, rfl⟩ := List.mem_iff_getElem.1 hn
  have := dn_mem h.dn hi
  rw [← h2] at this
  exact (validS_iff.1 h1).1 _ (at_some this).1
/-- Living nodes come first, so those that agree with what is there agree with all. -/
def Lf (pre : List Nt) (n : Nt) : Prop := deadN n = true ∨ ∀ x ∈ pre, deadN x = false
theorem ag_more {pre : List Nt} {n : Nt} (hg : agAll pre) (h : ∀ r, mg pre n.1 = some r → agreeN r n = true) (hf : Lf pre n) : agAll (pre ++ [n]) := by
  have key : ∀ x ∈ pre, x.1 = n.1 → agreeN x n = true := fun x hx e => by
    rcases ha : atS pre n.1 with _ | a
    · exact absurd e (at_none.1 ha x hx)
    · obtain ⟨a1, a2⟩ := at_some ha
      have hr := h (if deadAt pre n.1 = true then killN a else a) (by unfold mg; rw [ha]; rfl)
      have hxa := hg x hx a a1 (e.trans a2.symm)
      obtain ⟨x1, x2, x3, x4⟩ := agree_iff.1 hxa
      rcases hf with hf | hf
      · have hz : n.2.2.2 = 0 := by unfold deadN at hf; exact of_decide_eq_true hf
        obtain ⟨r1, r2, r3, r4⟩ := agree_iff.1 hr
        have k1 : (if deadAt pre n.1 = true then killN a else a).2.1 = a.2.1 := by split <;> rfl
        have k2 : (if deadAt pre n.1 = true then killN a else a).2.2.1 = a.2.2.1 := by split <;> rfl
        rw [k1] at r2
        rw [k2] at r3
        exact agree_iff.2 ⟨e, x2.trans r2, x3.trans r3, .inr (.inr hz)⟩
      · have hd : deadAt pre n.1 = false := by
          rw [← Bool.not_eq_true, deadAt_iff]
          rintro ⟨y, hy, -, hz⟩
          rw [hf y hy] at hz
          cases hz
        rw [hd] at hr
        simp only [Bool.false_eq_true, if_false] at hr
        have za : a.2.2.2 ≠ 0 := by have := hf a a1; unfold deadN at this; exact of_decide_eq_false this
        have zx : x.2.2.2 ≠ 0 := by have := hf x hx; unfold deadN at this; exact of_decide_eq_false this
        have hxa2 : x = a := node_ext x1 x2 x3 (by rcases x4 with h | h | h; exact h; exact absurd h zx; exact absurd h za)
        rw [hxa2]; exact hr
  intro a ha b hb e
  simp only [List.mem_append, List.mem_singleton] at ha hb
  rcases ha with ha | rfl <;> rcases hb with hb | rfl
  · exact hg a ha b hb e
  · exact key a ha e
  · rw [agree_comm]; exact key b hb e.symm
  · exact agree_self _
theorem gd_vd {ns pre : List Nt} {n : Nt} (h : Gd ns pre) (hn : validN n = true) : ∀ x ∈ pre ++ [n], validN x = true := fun x hx => by
  simp only [List.mem_append, List.mem_singleton] at hx
  rcases hx with hx | rfl
  · exact h.vd x hx
  · exact hn
theorem gd_new {ns pre : List Nt} {n : Nt} (h : Gd ns pre) (hn : validN n = true) (h0 : atS ns n.1 = none) : Gd (ns ++ [n]) (pre ++ [n]) := by
  have hp : atS pre n.1 = none := by
    have := h.at_ n.1
    rw [h0] at this
    unfold mg at this
    exact Option.map_eq_none_iff.1 this.symm
  have hag : agAll (pre ++ [n]) := by
    intro a ha b hb e
    simp only [List.mem_append, List.mem_singleton] at ha hb
    rcases ha with ha | rfl <;> rcases hb with hb | rfl
    · exact h.ag a ha b hb e
    · exact absurd e (at_none.1 hp a ha)
    · exact absurd e.symm (at_none.1 hp b hb)
    · exact agree_self _
  obtain ⟨g1, g2⟩ := gd_fold h
  obtain ⟨s1, s2, s3⟩ := step_ok g1 (fun d => (g2 d).trans (h.at_ d)) hn hag
  refine ⟨dn_app h.dn h0, hag, gd_vd h hn, fun d => ?_, by have := h.len; simp only [List.length_append, List.length_singleton]; omega⟩
  rw [← s3, put_at (validS_iff.1 g1).2 s1, at_app, g2]
  have hu : upN (foldN pre []) n = n := by unfold upN; rw [g2, h0]
  rw [hu]
  by_cases hd : d = n.1
  · subst hd; rw [h0]; simp
  · rw [if_neg hd, if_neg (fun e => hd e.symm), Option.or_none]
theorem gd_old {ns pre : List Nt} {n : Nt} (h : Gd ns pre) (hn : validN n = true) {k : Nat} (hk : k < ns.length) (e : ns[k].1 = n.1) (hm : (mergeN ns[k] n).2 = 0) (hf : Lf pre n) : Gd (ns.set k (mergeN ns[k] n).1) (pre ++ [n]) ∧ (mergeN ns[k] n).1.1 = ns[k].1 := by
  have ha : atS ns n.1 = some ns[k] := by rw [← e]; exact dn_mem h.dn hk
  have hag : agAll (pre ++ [n]) := ag_more h.ag (fun r hr => by
    rw [← h.at_, ha] at hr
    cases hr
    exact (merge_yes hm).2.2.1) hf
  obtain ⟨g1, g2⟩ := gd_fold h
  obtain ⟨s1, s2, s3⟩ := step_ok g1 (fun d => (g2 d).trans (h.at_ d)) hn hag
  have hd := (merge_dot hm).1
  refine ⟨⟨dn_set h.dn hk hd, hag, gd_vd h hn, fun d => ?_, by have := h.len; simp only [List.length_append, List.length_singleton, List.length_set]; omega⟩, hd⟩
  rw [← s3, put_at (validS_iff.1 g1).2 s1, at_set h.dn hk hd, g2]
  have hu : upN (foldN pre []) n = (mergeN ns[k] n).1 := by unfold upN; rw [g2, ha]
  rw [hu, hd, e]
theorem gd_bad {ns pre : List Nt} {n : Nt} (h : Gd ns pre) (hn : validN n = true) {k : Nat} (hk : k < ns.length) (e : ns[k].1 = n.1) (hm : (mergeN ns[k] n).2 ≠ 0) : (mergeN ns[k] n).2 = 15 ∧ ¬ agAll (pre ++ [n]) := by
  have ha : atS ns n.1 = some ns[k] := by rw [← e]; exact dn_mem h.dn hk
  have hv : validN ns[k] = true := gd_mem h (List.getElem_mem hk)
  constructor
  · unfold mergeN at hm ⊢
    rw [hv, hn] at hm ⊢
    simp only [Bool.and_self, if_true] at hm ⊢
    split
    · rename_i h; rw [if_pos h] at hm; exact absurd rfl hm
    · rfl
  · intro hag
    obtain ⟨g1, g2⟩ := gd_fold h
    obtain ⟨s1, -⟩ := step_ok g1 (fun d => (g2 d).trans (h.at_ d)) hn hag
    unfold putN at s1
    rw [g2, ha] at s1
    simp only [hm, if_false] at s1
/-- The living nodes, then the dead ones. -/
def sideS (l : List Nt) (b : Bool) : List Nt := l.filter fun n => deadN n == b
theorem side_take {l : List Nt} {k : Nat} (hk : k < l.length) (b : Bool) : sideS (l.take (k + 1)) b = if deadN l[k] = b then sideS (l.take k) b ++ [l[k]] else sideS (l.take k) b := by
  have e : l.take (k + 1) = l.take k ++ [l[k]] := by rw [List.take_add_one, List.getElem?_eq_getElem hk]; rfl
  unfold sideS
  rw [e, List.filter_append, List.filter_cons]
  by_cases h : deadN l[k] = b
  · rw [if_pos h, if_pos (by simpa using h)]; rfl
  · rw [if_neg h, if_neg (by simpa using h)]; simp
theorem side_mem {l : List Nt} {b : Bool} {x : Nt} : x ∈ sideS l b ↔ x ∈ l ∧ deadN x = b := by unfold sideS; rw [List.mem_filter]; simp
theorem sides_mem (l : List Nt) (x : Nt) : x ∈ sideS l false ++ sideS l true ↔ x ∈ l := by
  rw [List.mem_append, side_mem, side_mem]
  rcases h : deadN x with _ | _ <;> simp
/-- So far: the nodes of both sides up to k. -/
def preS (l : List Nt) (b : Bool) (k : Nat) : List Nt := if b = true then sideS l false ++ sideS (l.take k) true else sideS (l.take k) false
theorem pre_sub {l : List Nt} {b : Bool} {k : Nat} {x : Nt} (h : x ∈ preS l b k) : x ∈ l := by
  unfold preS at h
  split at h
  · rcases List.mem_append.1 h with h | h
    · exact (side_mem.1 h).1
    · exact List.mem_of_mem_take (side_mem.1 h).1
  · exact List.mem_of_mem_take (side_mem.1 h).1
theorem pre_step {l : List Nt} {b : Bool} {k : Nat} (hk : k < l.length) : preS l b (k + 1) = if deadN l[k] = b then preS l b k ++ [l[k]] else preS l b k := by
  unfold preS
  rcases b with _ | _
  · simp only [Bool.false_eq_true, if_false]; exact side_take hk false
  · simp only [if_true]; rw [side_take hk true]; split
    · rw [List.append_assoc]
    · rfl
theorem pre_lf {l : List Nt} {b : Bool} {k : Nat} {n : Nt} (h : deadN n = b) : Lf (preS l b k) n := by
  rcases b with _ | _
  · right
    intro x hx
    unfold preS at hx
    simp only [Bool.false_eq_true, if_false] at hx
    exact (side_mem.1 hx).2
  · exact .inl h
theorem pre_0 (l : List Nt) : preS l false 0 = [] := rfl
theorem pre_1 (l : List Nt) : preS l true 0 = preS l false l.length := by unfold preS sideS; simp
theorem of_clash {l : List Nt} {p : List Nt} (hv : ∀ x ∈ l, validN x = true) (hs : ∀ x ∈ p, x ∈ l) (h : ¬ agAll p) : ofN l = ([], 15) := by
  have h2 : ¬ agB l = true := fun k => h fun a ha b hb e => agB_iff.1 k a (hs a ha) b (hs b hb) e
  unfold ofN
  rw [if_pos (List.all_eq_true.2 hv), if_neg h2]
theorem of_done {l ns m : List Nt} (h : Gd ns (preS l true l.length)) (hp : m.Perm ns) (hw : m.Pairwise fun a b => less b.1 a.1 = false) : ofN l = (m, 0) := by
  have e : preS l true l.length = sideS l false ++ sideS l true := by unfold preS; simp
  rw [e] at h
  rw [← of_same (sides_mem l), (of_ok h.vd h.ag).1]
  obtain ⟨g1, g2⟩ := gd_fold h
  have hm : DN m := by
    have := h.dn
    unfold DN at *
    exact (hp.map _).nodup_iff.2 this
  have hs : SrtN m := by
    unfold SrtN
    rw [List.pairwise_iff_getElem] at hw ⊢
    intro i j hi hj hij
    rcases hl : less m[i].1 m[j].1 with _ | _
    · have := dn_at hm hi hj (less_tri hl (hw i j hi hj hij))
      omega
    · rfl
  refine Prod.ext (at_ext (validS_iff.1 g1).2 hs fun d => ?_) rfl
  rw [g2]
  rcases hx : atS ns d with _ | x
  · symm
    rw [at_none] at hx ⊢
    exact fun y hy => hx y (hp.mem_iff.1 hy)
  · obtain ⟨h3, rfl⟩ := at_some hx
    exact (at_mem hs (hp.mem_iff.2 h3)).symm
theorem side_len (l : List Nt) (b : Bool) : (sideS l b).length ≤ l.length := List.length_filter_le _ _
theorem pre_len (l : List Nt) (b : Bool) (k : Nat) : (preS l b k).length ≤ l.length + l.length := by
  have h1 := side_len l false
  have h2 := side_len (l.take k) true
  have h3 := side_len (l.take k) false
  have h4 : (l.take k).length ≤ l.length := by rw [List.length_take]; omega
  unfold preS
  split
  · rw [List.length_append]; omega
  · omega
end Go.Proofs.YtodjccfaipkpfaaGreatDoor.Qs
end

/-
  The tree, plainly: what the laws ask; a node more.
-/
section
namespace Go.Proofs.YtodjccfaipkpfaaGreatDoor.Wk
set_option linter.unusedVariables false
open D Nd Qs

/-! ### Lost nodes -/
def isLost (l : List Nt) (n : Nt) : Bool := (pathS l (l.length + 1) n.1).isNone
theorem lost_iff {l : List Nt} {n : Nt} : isLost l n = true ↔ ¬ ∃ p, Pt l n.1 p := by
  unfold isLost
  constructor
  · rintro h ⟨p, hp⟩
    rw [pt_iff.1 hp] at h
    cases h
  · intro h
    rcases hp : pathS l (l.length + 1) n.1 with _ | p
    · rfl
    · exact absurd ⟨p, pt_iff.2 hp⟩ h
def lostF (l : List Nt) (o : List Dt) (n : Nt) : List Dt := if isLost l n = true then ins o n.1 else o
def lostS (l : List Nt) : List Dt := l.foldl (lostF l) []
theorem lost_fold (l : List Nt) : ∀ (t : List Nt) (o : List Dt), Srt o → Srt (t.foldl (lostF l) o) ∧ ∀ d, d ∈ t.foldl (lostF l) o ↔ d ∈ o ∨ ∃ n ∈ t, isLost l n = true ∧ n.1 = d
  | [], o, h => ⟨h, fun d => by simp⟩
  | n :: t, o, h => by
    rw [List.foldl_cons]
    have h2 : Srt (lostF l o n) := by unfold lostF; split; exact srt_ins h _; exact h
    obtain ⟨k1, k2⟩ := lost_fold l t _ h2
    refine ⟨k1, fun d => ?_⟩
    rw [k2]
    unfold lostF
    constructor
    · rintro (h3 | ⟨x, hx, hy⟩)
      · split at h3
        · rename_i hq
          rcases mem_ins.1 h3 with h3 | h3
          · exact .inl h3
          · exact .inr ⟨n, by simp, hq, h3.symm⟩
        · exact .inl h3
      · exact .inr ⟨x, by simp [hx], hy⟩
    · rintro (h3 | ⟨x, hx, hq, e⟩)
      · left
        split
        · exact mem_ins.2 (.inl h3)
        · exact h3
      · rcases List.mem_cons.1 hx with rfl | hx
        · left
          rw [if_pos hq]
          exact mem_ins.2 (.inr e.symm)
        · exact .inr ⟨x, hx, hq, e⟩
theorem lost_eq {l : List Nt} (hs : SrtN l) : lostS l = (l.filter (isLost l)).map (·.1) := by
  refine srt_ext (lost_fold l l [] srt_nil).1 ?_ fun d => ?_
  · unfold Srt
    rw [List.pairwise_map]
    exact List.Pairwise.sublist List.filter_sublist hs
  · unfold lostS
    rw [(lost_fold l l [] srt_nil).2]
    simp only [List.mem_map, List.mem_filter]
    constructor
    · rintro (h | ⟨n, h1, h2, h3⟩)
      · cases h
      · exact ⟨n, ⟨h1, h2⟩, h3⟩
    · rintro ⟨n, ⟨h1, h2⟩, h3⟩
      exact .inr ⟨n, h1, h2, h3⟩
theorem mem_lost {l : List Nt} (hs : SrtN l) {d : Dt} : d ∈ lostS l ↔ ∃ n ∈ l, (¬ ∃ p, Pt l n.1 p) ∧ n.1 = d := by
  rw [lost_eq hs]
  simp only [List.mem_map, List.mem_filter, lost_iff]
  constructor
  · rintro ⟨n, ⟨h1, h2⟩, h3⟩; exact ⟨n, h1, h2, h3⟩
  · rintro ⟨n, h1, h2, h3⟩; exact ⟨n, ⟨h1, h2⟩, h3⟩
theorem filter_two {α : Type} (q : α → Bool) : ∀ l : List α, (l.filter q).length + (l.filter fun x => !q x).length = l.length
  | [] => rfl
  | a :: t => by
    have := filter_two q t
    rw [List.filter_cons, List.filter_cons]
    cases q a <;> simp <;> omega
theorem order_nodup {l : List Nt} (hv : validS l = true) : (orderS l).Pairwise fun a b => a.1 ≠ b.1 := bw_nodup hv _ (pt_root (by decide)) (Nat.le_refl _)
/-- Each node is reached or lost. -/
theorem both_len {l : List Nt} (hv : validS l = true) : (orderS l).length + (lostS l).length = l.length := by
  have hs := (validS_iff.1 hv).2
  rw [lost_eq hs, List.length_map]
  have h1 : (orderS l).length = (l.filter fun x => !isLost l x).length := by
    refine Nat.le_antisymm (nd_len ((order_nodup hv).imp fun h e => h (by rw [e])) fun x hx => ?_) (nd_len (List.Pairwise.sublist List.filter_sublist ((srt_ne hs).imp fun h e => h (by rw [e]))) fun x hx => ?_)
    · obtain ⟨k1, k2⟩ := (order_mem hv).1 hx
      rw [List.mem_filter]
      refine ⟨k1, ?_⟩
      rw [Bool.not_eq_true', ← Bool.not_eq_true, lost_iff]
      exact fun h => h k2
    · rw [List.mem_filter, Bool.not_eq_true', ← Bool.not_eq_true, lost_iff] at hx
      exact (order_mem hv).2 ⟨hx.1, Classical.not_not.1 hx.2⟩
  rw [h1]
  have := filter_two (isLost l) l
  omega
theorem both_union {l : List Nt} (hv : validS l = true) : unionR ((orderS l).map (·.1)) (lostS l) = l.map (·.1) := by
  have hs := (validS_iff.1 hv).2
  refine (union_eq (srt_map.2 hs) fun d => ?_).symm
  rw [mem_lost hs, List.mem_map, List.mem_map]
  constructor
  · rintro ⟨n, h1, rfl⟩
    by_cases h : ∃ p, Pt l n.1 p
    · exact .inl ⟨n, (order_mem hv).2 ⟨h1, h⟩, rfl⟩
    · exact .inr ⟨n, h1, h, rfl⟩
  · rintro (⟨n, h1, rfl⟩ | ⟨n, h1, -, rfl⟩)
    · exact ⟨n, ((order_mem hv).1 h1).1, rfl⟩
    · exact ⟨n, h1, rfl⟩
/-- Where the node with an index stands. -/
theorem order_at {l : List Nt} (hv : validS l = true) (i : Nat) (hi : i < (orderS l).length) :
    ((orderS l)[i].2.1 = (0, 0) ∨ ∃ y ∈ (orderS l).take i, y.1 = (orderS l)[i].2.1) ∧ i + 1 + (Bw l (orderS l)[i].1).length ≤ (orderS l).length ∧ ((orderS l).drop (i + 1)).take (Bw l (orderS l)[i].1).length = Bw l (orderS l)[i].1 := by
  obtain ⟨A, B, h1, h2⟩ := bw_at hv _ (pt_root (l := l) (d := (0, 0)) (by decide)) (Nat.le_refl _) (orderS l)[i] (List.getElem_mem hi)
  have h1' : orderS l = A ++ (orderS l)[i] :: (Bw l (orderS l)[i].1 ++ B) := h1
  have hA : A.length = i := by
    have hl := congrArg List.length h1'
    simp only [List.length_append, List.length_cons] at hl
    have hAl : A.length < (orderS l).length := by omega
    have he : (orderS l)[A.length] = (orderS l)[i] := by
      have : (A ++ (orderS l)[i] :: (Bw l (orderS l)[i].1 ++ B))[A.length]'(by simp) = (orderS l)[i] := by simp
      rw [← this]
      congr 1
    rcases Nat.lt_trichotomy A.length i with k | k | k
    · exact absurd (by rw [he]) (List.pairwise_iff_getElem.1 (order_nodup hv) A.length i hAl hi k)
    · exact k
    · exact absurd (by rw [he]) (List.pairwise_iff_getElem.1 (order_nodup hv) i A.length hi hAl k)
  generalize hx : (orderS l)[i] = x at *
  have hl := congrArg List.length h1'
  simp only [List.length_append, List.length_cons] at hl
  have ht : (orderS l).take i = A := by rw [h1', ← hA, List.take_left]
  have hd : (orderS l).drop (i + 1) = Bw l x.1 ++ B := by
    rw [h1', ← hA, show A.length + 1 = A.length + 1 from rfl, List.drop_append]
    simp
  refine ⟨?_, by omega, by rw [hd, List.take_left]⟩
  rw [ht]
  exact h2
/-- What stands in a path. -/
theorem path_at {l : List Nt} {d : Dt} {p : List Dt} (h : Pt l d p) (i : Nat) (hi : i < p.length) : ∃ x, atS l p[i] = some x ∧ x.2.1 = if h0 : i = 0 then (0, 0) else p[i - 1]'(by omega) := by
  rcases pt_inv (pt_prefix h (at_parts hi)) with ⟨_, k⟩ | ⟨_, x, q, k1, k2, k3⟩
  · have hk := congrArg List.length k
    rw [List.length_append, List.length_cons, List.length_nil] at hk
    omega
  · obtain ⟨rfl, -⟩ := List.append_inj' k3 rfl
    refine ⟨x, k1, ?_⟩
    split
    · rename_i h0
      subst h0
      rcases pt_inv k2 with ⟨r, -⟩ | ⟨_, y, q, _, _, k⟩
      · exact root_eq r
      · simp at k
    · rename_i h0
      have e : p.take i = p.take (i - 1) ++ [p[i - 1]'(by omega)] := by
        have := List.take_add_one (l := p) (i := i - 1)
        rw [show i - 1 + 1 = i by omega, List.getElem?_eq_getElem (by omega)] at this
        exact this
      rw [e] at k2
      exact (pt_last k2).symm
theorem path_last {l : List Nt} {d : Dt} {p : List Dt} (h : Pt l d p) (hr : rootR d = false) : ∃ q, p = q ++ [d] := by
  rcases pt_inv h with ⟨k, -⟩ | ⟨_, x, q, _, _, k⟩
  · rw [k] at hr; cases hr
  · exact ⟨q, k⟩

theorem at_parts2 {α : Type} {p : List α} {i : Nat} (hi : i < p.length) : p = p.take i ++ p[i] :: p.drop (i + 1) := by rw [← List.drop_eq_getElem_cons hi, List.take_append_drop]
/-! ### A node more -/ 
def insA (q : Dt) (n : Nt) (l : List Nt) : List Nt := l.flatMap fun x => if x.1 = q then [x, n] else [x]
theorem insA_no {q : Dt} {n : Nt} {l : List Nt} (h : ∀ x ∈ l, x.1 ≠ q) : insA q n l = l := by
  induction l with
  | nil => rfl
  | cons a t ih =>
    have := ih fun x hx => h x (by simp [hx])
    unfold insA at this ⊢
    rw [List.flatMap_cons, if_neg (h a (by simp)), this]
    rfl
theorem insA_cons (q : Dt) (n x : Nt) (l : List Nt) : insA q n (x :: l) = x :: ((if x.1 = q then [n] else []) ++ insA q n l) := by
  unfold insA
  rw [List.flatMap_cons]
  split <;> rfl
theorem insA_app (q : Dt) (n : Nt) (l m : List Nt) : insA q n (l ++ m) = insA q n l ++ insA q n m := by
  unfold insA
  rw [List.flatMap_append]
section
variable {l : List Nt} {n : Nt}
theorem grow_child (hv : validS l = true) (hn : validN n = true) (hd : atS l n.1 = none) (ht : ∀ x ∈ l, x.2.2.1 < n.2.2.1) (e : Dt) : childS (setS l n) e = (if e = n.2.1 then [n] else []) ++ childS l e := by
  have hs := (validS_iff.1 hv).2
  refine (child_eq (srt_setS hs n) ?_ fun x => ?_).symm
  · unfold SrtB
    split
    · rw [List.singleton_append, List.pairwise_cons]
      refine ⟨fun c hc => before_iff.2 (.inl (ht c ((mem_child hs).1 hc).1)), srt_child hs e⟩
    · exact srt_child hs e
  · rw [List.mem_append, mem_child hs, mem_setS hs]
    constructor
    · rintro (h | ⟨h1, h2⟩)
      · split at h
        · rename_i he
          rw [List.mem_singleton] at h
          subst h
          exact ⟨.inl rfl, he.symm⟩
        · cases h
      · exact ⟨.inr ⟨h1, at_none.1 hd x h1⟩, h2⟩
    · rintro ⟨rfl | ⟨h1, h2⟩, h3⟩
      · left; rw [if_pos h3.symm]; simp
      · exact .inr ⟨h1, h3⟩
theorem grow_path (hv : validS l = true) (hd : atS l n.1 = none) : ∀ {p : List Dt} {d : Dt}, Pt l d p → Pt (setS l n) d p := by
  have hs := (validS_iff.1 hv).2
  intro p
  induction hk : p.length using Nat.strongRecOn generalizing p with
  | _ k ih =>
    intro d h
    rcases pt_inv h with ⟨hr, rfl⟩ | ⟨hr, x, q, h1, h2, rfl⟩
    · exact pt_root hr
    · obtain ⟨h3, rfl⟩ := at_some h1
      exact pt_step (srt_setS hs n) ((mem_setS hs).2 (.inr ⟨h3, at_none.1 hd x h3⟩)) hr (ih q.length (by rw [← hk]; simp) rfl h2)
theorem grow_below (hv : validS l = true) (hn : validN n = true) (hd : atS l n.1 = none) (hc : ∀ x ∈ l, x.2.1 ≠ n.1) (ht : ∀ x ∈ l, x.2.2.1 < n.2.2.1) : ∀ (k : Nat) {d : Dt} {p : List Dt}, Pt l d p → l.length + 1 ≤ k + p.length →
    Bw (setS l n) d = (if d = n.2.1 then [n] else []) ++ insA n.2.1 n (Bw l d)
  | 0, d, p, hp, hk => by have := pt_len hp; omega
  | k + 1, d, p, hp, hk => by
    have hs := (validS_iff.1 hv).2
    have hv2 : validS (setS l n) = true := by
      have h0 : (putN l n).2 = 0 := by unfold putN; rw [hd]
      have := put_valid hv hn h0
      rw [(put_yes h0).1] at this
      unfold upN at this
      rw [hd] at this
      exact this
    rw [bw_eq hv2 (grow_path hv hd hp), grow_child hv hn hd ht, List.flatMap_append, bw_eq hv hp]
    have e1 : ∀ c ∈ childS l d, (c :: Bw (setS l n) c.1) = insA n.2.1 n (c :: Bw l c.1) := fun c hcc => by
      rw [grow_below hv hn hd hc ht k (child_path hv hp hcc) (by simp; omega), insA_cons]
    have e2 : (childS l d).flatMap (fun c => c :: Bw (setS l n) c.1) = insA n.2.1 n ((childS l d).flatMap fun c => c :: Bw l c.1) := by
      unfold insA
      rw [List.flatMap_assoc]
      unfold List.flatMap
      rw [List.map_congr_left e1]
      rfl
    rw [e2]
    congr 1
    split
    · rename_i he
      have hp2 : Pt (setS l n) n.1 (p ++ [n.1]) := pt_step (srt_setS hs n) ((mem_setS hs).2 (.inl rfl)) (not_root hn) (by rw [← he]; exact grow_path hv hd hp)
      have h0 : childS (setS l n) n.1 = [] := by
        rw [grow_child hv hn hd ht, if_neg (fun e => (valid_vn.1 hn).2.2.1 e.symm)]
        rw [List.nil_append, List.eq_nil_iff_forall_not_mem]
        intro x hx
        exact hc x ((mem_child hs).1 hx).1 ((mem_child hs).1 hx).2
      rw [List.flatMap_cons, List.flatMap_nil, bw_eq hv2 hp2, h0]
      rfl
    · rfl
/-- A node more, later than all, follows directly on its parent. -/
theorem grow_order (hv : validS l = true) (hn : validN n = true) (hd : atS l n.1 = none) (hc : ∀ x ∈ l, x.2.1 ≠ n.1) (ht : ∀ x ∈ l, x.2.2.1 < n.2.2.1) (k : Nat) (hk : k ≤ (orderS l).length)
    (hp : n.2.1 = if h0 : k = 0 then (0, 0) else ((orderS l)[k - 1]'(by omega)).1) : orderS (setS l n) = (orderS l).take k ++ n :: (orderS l).drop k := by
  have h := grow_below hv hn hd hc ht _ (pt_root (l := l) (d := (0, 0)) (by decide)) (Nat.le_refl _)
  rw [show orderS (setS l n) = Bw (setS l n) (0, 0) from rfl, h, show Bw l (0, 0) = orderS l from rfl]
  have hr : ∀ x ∈ orderS l, x.1 ≠ (0, 0) := fun x hx e => by
    have := not_root ((validS_iff.1 hv).1 x ((order_mem hv).1 hx).1)
    rw [e] at this
    cases this
  by_cases h0 : k = 0
  · subst h0
    simp only [dite_true] at hp
    rw [hp, if_pos rfl, insA_no hr]
    simp
  · rw [dif_neg h0] at hp
    obtain ⟨x, hx⟩ : ∃ x, x = (orderS l)[k - 1]'(by omega) := ⟨_, rfl⟩
    rw [← hx] at hp
    have hmem : x ∈ orderS l := by rw [hx]; exact List.getElem_mem _
    rw [if_neg (fun e => hr x hmem (by rw [← hp]; exact e.symm)), List.nil_append]
    have hparts := at_parts2 (p := orderS l) (i := k - 1) (by omega)
    rw [← hx, show k - 1 + 1 = k by omega] at hparts
    have hnd := order_nodup hv
    rw [hparts, List.pairwise_append, List.pairwise_cons] at hnd
    conv => lhs; rw [hparts]
    rw [insA_app, insA_cons, if_pos hp.symm, insA_no (fun y hy => by rw [hp]; exact hnd.2.2 y hy x (by simp)), insA_no (fun y hy => by rw [hp]; exact (hnd.2.1.1 y hy).symm)]
    have e : (orderS l).take k = (orderS l).take (k - 1) ++ [x] := by
      have := List.take_add_one (l := orderS l) (i := k - 1)
      rw [show k - 1 + 1 = k by omega, List.getElem?_eq_getElem (by omega), ← hx] at this
      exact this
    rw [e]
    simp
end
end Go.Proofs.YtodjccfaipkpfaaGreatDoor.Wk
end

/-
  The order of the tree with depths; what is still to come; the paths, as a walk finds them.
-/
section
namespace Go.Proofs.YtodjccfaipkpfaaGreatDoor.Wk
set_option linter.unusedVariables false
open D Nd Qs

/-- A node with a depth. -/
abbrev At := Nat × Nt
def belowD (l : List Nt) : Nat → Dt → Nat → List At
  | 0, _, _ => []
  | n + 1, d, k => (childS l d).flatMap fun c => (k, c) :: belowD l n c.1 (k + 1)
def BD (l : List Nt) (d : Dt) (k : Nat) : List At := belowD l (l.length + 1) d k
theorem belowD_snd (l : List Nt) : ∀ (n : Nat) (d : Dt) (k : Nat), (belowD l n d k).map (·.2) = belowS l n d
  | 0, _, _ => rfl
  | n + 1, d, k => by
    rw [belowD, belowS, List.map_flatMap]
    unfold List.flatMap
    congr 1
    exact List.map_congr_left fun c _ => by rw [List.map_cons, belowD_snd l n c.1 (k + 1)]
theorem bd_snd (l : List Nt) (d : Dt) (k : Nat) : (BD l d k).map (·.2) = Bw l d := belowD_snd l _ d k
theorem bd_len (l : List Nt) (d : Dt) (k : Nat) : (BD l d k).length = (Bw l d).length := by rw [← bd_snd l d k, List.length_map]
theorem belowD_stable {l : List Nt} (hv : validS l = true) : ∀ (n m : Nat) (d : Dt) (k : Nat) (p : List Dt), Pt l d p → l.length + 1 ≤ n + p.length → l.length + 1 ≤ m + p.length → belowD l n d k = belowD l m d k
  | 0, m, d, k, p, hp, hn, hm => by have := pt_len hp; omega
  | n + 1, 0, d, k, p, hp, hn, hm => by have := pt_len hp; omega
  | n + 1, m + 1, d, k, p, hp, hn, hm => by
    rw [belowD, belowD]
    have e : ∀ c ∈ childS l d, (k, c) :: belowD l n c.1 (k + 1) = (k, c) :: belowD l m c.1 (k + 1) := fun c hc => by
      rw [belowD_stable hv n m c.1 (k + 1) (p ++ [c.1]) (child_path hv hp hc) (by simp; omega) (by simp; omega)]
    unfold List.flatMap
    rw [List.map_congr_left e]
theorem bd_eq {l : List Nt} (hv : validS l = true) {d : Dt} {p : List Dt} (hp : Pt l d p) (k : Nat) : BD l d k = (childS l d).flatMap fun c => (k, c) :: BD l c.1 (k + 1) := by
  have hl := pt_len hp
  rw [show BD l d k = belowD l (l.length + 1 + 1) d k from belowD_stable hv _ _ d k p hp (by omega) (by omega), belowD]
  rfl

/-! ### What is still to come -/
/-- All that is to come, of a list that begins with the next one. -/
def restS (l : List Nt) (t : List At) : List At := t.flatMap fun x => x :: BD l x.2.1 (x.1 + 1)
/-- The children of a dot, with a depth. -/
def kidsS (l : List Nt) (d : Dt) (k : Nat) : List At := (childS l d).map fun c => (k, c)
/-- All in the list are reached. -/
def Rch (l : List Nt) (t : List At) : Prop := ∀ x ∈ t, ∃ p, Pt l x.2.1 p ∧ x.1 < p.length
theorem rest_kids {l : List Nt} (hv : validS l = true) {d : Dt} {p : List Dt} (hp : Pt l d p) (k : Nat) : restS l (kidsS l d k) = BD l d k := by
  rw [bd_eq hv hp]
  unfold restS kidsS
  rw [List.flatMap_map]
theorem rest_step {l : List Nt} (hv : validS l = true) {x : At} {t : List At} (h : Rch l (x :: t)) : restS l (x :: t) = x :: restS l (kidsS l x.2.1 (x.1 + 1) ++ t) := by
  obtain ⟨p, hp, -⟩ := h x (by simp)
  unfold restS
  rw [List.flatMap_cons, List.flatMap_append, List.cons_append]
  congr 2
  exact (rest_kids hv hp _).symm
theorem rch_step {l : List Nt} (hv : validS l = true) {x : At} {t : List At} (h : Rch l (x :: t)) : Rch l (kidsS l x.2.1 (x.1 + 1) ++ t) := fun y hy => by
  rcases List.mem_append.1 hy with hy | hy
  · obtain ⟨p, hp, hl⟩ := h x (by simp)
    obtain ⟨c, hc, rfl⟩ := List.mem_map.1 hy
    exact ⟨_, child_path hv hp hc, by simp; omega⟩
  · exact h y (by simp [hy])
theorem rch_kids {l : List Nt} (hv : validS l = true) {d : Dt} {p : List Dt} (hp : Pt l d p) {k : Nat} (hk : k ≤ p.length) : Rch l (kidsS l d k) := fun y hy => by
  obtain ⟨c, hc, rfl⟩ := List.mem_map.1 hy
  exact ⟨_, child_path hv hp hc, by simp; omega⟩
theorem rest_len (l : List Nt) : ∀ t : List At, t.length ≤ (restS l t).length
  | [] => Nat.zero_le _
  | x :: t => by
    have := rest_len l t
    unfold restS at *
    rw [List.flatMap_cons]
    simp only [List.cons_append, List.length_cons, List.length_append]
    omega
theorem bw_len {l : List Nt} (hv : validS l = true) {d : Dt} {p : List Dt} (hp : Pt l d p) : (Bw l d).length ≤ l.length := by
  have h := nd_len (a := Bw l d) (b := l) ((bw_nodup hv (l.length + 1) hp (by omega)).imp fun h e => h (by rw [e])) fun x hx => (bw_path hv (l.length + 1) hp (by omega) x hx).1
  exact h

/-! ### Paths, as a walk finds them -/
def pathF (q : List Dt) (x : At) : List Dt := q.take x.1 ++ [x.2.1]
theorem pathF_len {q : List Dt} {x : At} (h : x.1 ≤ q.length) : (pathF q x).length = x.1 + 1 := by
  unfold pathF
  rw [List.length_append, List.length_take, Nat.min_eq_left h]
  rfl
def Good (l : List Nt) (k : Nat) (p : List Dt) (S : List At) : Prop :=
  ∀ q, q.take k = p → (S.foldl pathF q).take k = p ∧ ∀ A x B, S = A ++ x :: B → x.1 ≤ (A.foldl pathF q).length ∧ Pt l x.2.1 (pathF (A.foldl pathF q) x)
theorem Good.nil (l : List Nt) (k : Nat) (p : List Dt) : Good l k p [] := fun q hq => ⟨hq, fun A x B h => by simp at h⟩
theorem Good.app {l : List Nt} {k : Nat} {p : List Dt} {S T : List At} (h : Good l k p S) (h2 : Good l k p T) : Good l k p (S ++ T) := fun q hq => by
  obtain ⟨a1, a2⟩ := h q hq
  obtain ⟨b1, b2⟩ := h2 _ a1
  refine ⟨by rw [List.foldl_append]; exact b1, fun A x B e => ?_⟩
  rcases List.append_eq_append_iff.1 e with ⟨C, e1, e2⟩ | ⟨C, e1, e2⟩
  · subst e1
    rw [List.foldl_append]
    exact b2 C x B e2
  · cases C with
    | nil =>
      simp only [List.append_nil] at e1
      subst e1
      exact b2 [] x B (by simpa using e2.symm)
    | cons y C =>
      simp only [List.cons_append, List.cons.injEq] at e2
      obtain ⟨rfl, -⟩ := e2
      exact a2 A x C e1
theorem good_bd {l : List Nt} (hv : validS l = true) : ∀ (n : Nat) {d : Dt} {p : List Dt}, Pt l d p → l.length + 1 ≤ n + p.length → Good l p.length p (BD l d p.length)
  | 0, d, p, hp, hn => by have := pt_len hp; omega
  | n + 1, d, p, hp, hn => by
    rw [bd_eq hv hp]
    have key : ∀ cs : List Nt, (∀ c ∈ cs, c ∈ childS l d) → Good l p.length p (cs.flatMap fun c => (p.length, c) :: BD l c.1 (p.length + 1)) := by
      intro cs
      induction cs with
      | nil => exact fun _ => Good.nil _ _ _
      | cons c cs ih =>
        intro hc
        rw [List.flatMap_cons]
        refine Good.app ?_ (ih fun c' h' => hc c' (by simp [h']))
        have hcp := child_path hv hp (hc c (by simp))
        have ihc := good_bd hv n hcp (by simp; omega)
        rw [show (p ++ [c.1]).length = p.length + 1 by simp] at ihc
        intro q hq
        have hql : p.length ≤ q.length := by have := congrArg List.length hq; rw [List.length_take] at this; omega
        have hpf : pathF q (p.length, c) = p ++ [c.1] := by unfold pathF; rw [hq]
        obtain ⟨a1, a2⟩ := ihc (pathF q (p.length, c)) (by rw [hpf, List.take_of_length_le (by simp)])
        refine ⟨?_, fun A x B e => ?_⟩
        · rw [List.foldl_cons]
          have := congrArg (List.take p.length) a1
          rw [List.take_take, Nat.min_eq_left (by omega), List.take_left] at this
          exact this
        · cases A with
          | nil =>
            simp only [List.nil_append, List.cons.injEq] at e
            obtain ⟨rfl, -⟩ := e
            refine ⟨hql, ?_⟩
            rw [List.foldl_nil, hpf]
            exact hcp
          | cons y A =>
            simp only [List.cons_append, List.cons.injEq] at e
            obtain ⟨rfl, e⟩ := e
            exact a2 A x B e
    exact key _ fun _ h => h
theorem root_path (l : List Nt) : Pt l (0, 0) [] := pt_root (by decide)
/-- All nodes that are reached, with their depths. -/
def allD (l : List Nt) : List At := BD l (0, 0) 0
theorem all_snd (l : List Nt) : (allD l).map (·.2) = orderS l := bd_snd l _ _
theorem all_path {l : List Nt} (hv : validS l = true) {A : List At} {x : At} {B : List At} (h : allD l = A ++ x :: B) : x.1 ≤ (A.foldl pathF []).length ∧ Pt l x.2.1 (pathF (A.foldl pathF []) x) :=
  (good_bd hv (l.length + 1) (root_path l) (by simp) [] rfl).2 A x B h
theorem all_depth {l : List Nt} (hv : validS l = true) {A : List At} {x : At} {B : List At} (h : allD l = A ++ x :: B) {p : List Dt} (hp : Pt l x.2.1 p) : p.length = x.1 + 1 := by
  obtain ⟨h1, h2⟩ := all_path hv h
  rw [pt_uniq hp h2]
  exact pathF_len h1
end Go.Proofs.YtodjccfaipkpfaaGreatDoor.Wk
end
