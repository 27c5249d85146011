/-
  Nodes, plainly: which are valid, which stand before others, which agree, what they are merged to.
-/
import Derived.Test.YtmmcnpcijeahcabGreatDoorDText
import Derived.Test.YtmmcnpcijeahcabGreatDoorRHex
namespace Go.Proofs.YtmmcnpcijeahcabGreatDoor.Nd
set_option linter.unusedVariables false
open D

/-- A node: its dot, its parent, its time, its rune. -/
abbrev Nt := Dt × Dt × Int × Int
def zeroN : Nt := ((0, 0), (0, 0), 0, 0)
def validN (n : Nt) : Bool := validR n.1 && (rootR n.2.1 || validR n.2.1) && !decide (n.2.1 = n.1) && decide (1 ≤ n.2.2.1) && decide (n.2.2.1 ≤ 4611686018427387904) && (decide (n.2.2.2 = 0) || R.vld n.2.2.2)
def VN (n : Nt) : Prop := validR n.1 = true ∧ named n.2.1 ∧ n.2.1 ≠ n.1 ∧ 1 ≤ n.2.2.1 ∧ n.2.2.1 ≤ 4611686018427387904 ∧ (n.2.2.2 = 0 ∨ R.vld n.2.2.2 = true)
theorem valid_vn {n : Nt} : validN n = true ↔ VN n := by
  unfold validN VN named
  simp only [Bool.and_eq_true, Bool.or_eq_true, Bool.not_eq_true', decide_eq_true_eq, decide_eq_false_iff_not]
  constructor
  · rintro ⟨⟨⟨⟨⟨h1, h2⟩, h3⟩, h4⟩, h5⟩, h6⟩
    exact ⟨h1, h2.symm, h3, h4, h5, h6⟩
  · rintro ⟨h1, h2, h3, h4, h5, h6⟩
    exact ⟨⟨⟨⟨⟨h1, h2.symm⟩, h3⟩, h4⟩, h5⟩, h6⟩
def killN (n : Nt) : Nt := (n.1, n.2.1, n.2.2.1, 0)
def deadN (n : Nt) : Bool := decide (n.2.2.2 = 0)
def beforeN (a b : Nt) : Bool := if a.2.2.1 = b.2.2.1 then less b.1 a.1 else decide (b.2.2.1 < a.2.2.1)
def agreeN (a b : Nt) : Bool := decide (a.1 = b.1) && decide (a.2.1 = b.2.1) && decide (a.2.2.1 = b.2.2.1) && (decide (a.2.2.2 = b.2.2.2) || decide (a.2.2.2 = 0) || decide (b.2.2.2 = 0))
def mergeN (a b : Nt) : Nt × Int := if (validN a && validN b) = true then (if agreeN a b = true then (if b.2.2.2 = 0 then b else a, 0) else (zeroN, 15)) else (zeroN, 2)
theorem agree_iff {a b : Nt} : agreeN a b = true ↔ a.1 = b.1 ∧ a.2.1 = b.2.1 ∧ a.2.2.1 = b.2.2.1 ∧ (a.2.2.2 = b.2.2.2 ∨ a.2.2.2 = 0 ∨ b.2.2.2 = 0) := by
  unfold agreeN
  simp only [Bool.and_eq_true, Bool.or_eq_true, decide_eq_true_eq]
  constructor
  · rintro ⟨⟨⟨h1, h2⟩, h3⟩, (h4 | h4) | h4⟩
    · exact ⟨h1, h2, h3, .inl h4⟩
    · exact ⟨h1, h2, h3, .inr (.inl h4)⟩
    · exact ⟨h1, h2, h3, .inr (.inr h4)⟩
  · rintro ⟨h1, h2, h3, h4 | h4 | h4⟩
    · exact ⟨⟨⟨h1, h2⟩, h3⟩, .inl (.inl h4)⟩
    · exact ⟨⟨⟨h1, h2⟩, h3⟩, .inl (.inr h4)⟩
    · exact ⟨⟨⟨h1, h2⟩, h3⟩, .inr h4⟩
theorem node_ext {a b : Nt} (h1 : a.1 = b.1) (h2 : a.2.1 = b.2.1) (h3 : a.2.2.1 = b.2.2.1) (h4 : a.2.2.2 = b.2.2.2) : a = b := Prod.ext h1 (Prod.ext h2 (Prod.ext h3 h4))

/-! ### Before -/
theorem before_iff {a b : Nt} : beforeN a b = true ↔ b.2.2.1 < a.2.2.1 ∨ (a.2.2.1 = b.2.2.1 ∧ less b.1 a.1 = true) := by
  unfold beforeN
  split
  · rename_i h
    exact ⟨fun k => .inr ⟨h, k⟩, fun k => k.elim (fun k => absurd h (by omega)) (·.2)⟩
  · rename_i h
    rw [decide_eq_true_eq]
    exact ⟨.inl, fun k => k.elim id fun k => absurd k.1 h⟩
theorem before_irr (a : Nt) : beforeN a a = false := by
  rw [← Bool.not_eq_true, before_iff]
  rintro (h | ⟨_, h⟩)
  · omega
  · rw [less_irr] at h; cases h
theorem before_trans {a b c : Nt} (h : beforeN a b = true) (k : beforeN b c = true) : beforeN a c = true := by
  rw [before_iff] at *
  rcases h with h | ⟨h1, h2⟩ <;> rcases k with k | ⟨k1, k2⟩
  · left; omega
  · left; omega
  · left; omega
  · right; exact ⟨by omega, less_trans k2 h2⟩
theorem before_asymm {a b : Nt} (h : beforeN a b = true) : beforeN b a = false := by
  rw [← Bool.not_eq_true]
  intro k
  have := before_trans h k
  rw [before_irr] at this; cases this
/-- Of two nodes with different times or dots just one stands before the other one. -/
theorem before_one (a b : Nt) : (beforeN a b || beforeN b a) = (!decide (a.2.2.1 = b.2.2.1) || !decide (a.1 = b.1)) := by
  rw [Bool.eq_iff_iff]
  simp only [Bool.or_eq_true, before_iff, Bool.not_eq_true', decide_eq_false_iff_not]
  constructor
  · rintro ((h | ⟨h1, h2⟩) | (h | ⟨h1, h2⟩))
    · left; omega
    · right; exact fun e => less_ne h2 e.symm
    · left; omega
    · right; exact fun e => less_ne h2 e
  · intro h
    by_cases ht : a.2.2.1 = b.2.2.1
    · have hd : a.1 ≠ b.1 := h.elim (fun k => absurd ht k) id
      rcases h1 : less b.1 a.1 with _ | _
      · rcases h2 : less a.1 b.1 with _ | _
        · exact absurd (less_tri h2 h1) hd
        · exact .inr (.inr ⟨ht.symm, rfl⟩)
      · exact .inl (.inr ⟨ht, rfl⟩)
    · rcases Int.lt_or_lt_of_ne ht with k | k
      · exact .inr (.inl k)
      · exact .inl (.inl k)

/-! ### Merge -/
theorem agree_comm (a b : Nt) : agreeN a b = agreeN b a := by
  rw [Bool.eq_iff_iff, agree_iff, agree_iff]
  constructor
  · rintro ⟨h1, h2, h3, h4⟩
    exact ⟨h1.symm, h2.symm, h3.symm, h4.elim (fun h => .inl h.symm) fun h => .inr h.symm⟩
  · rintro ⟨h1, h2, h3, h4⟩
    exact ⟨h1.symm, h2.symm, h3.symm, h4.elim (fun h => .inl h.symm) fun h => .inr h.symm⟩
theorem pick_comm {a b : Nt} (h : agreeN a b = true) : (if b.2.2.2 = 0 then b else a) = if a.2.2.2 = 0 then a else b := by
  obtain ⟨h1, h2, h3, h4⟩ := agree_iff.1 h
  by_cases ha : a.2.2.2 = 0 <;> by_cases hb : b.2.2.2 = 0
  · rw [if_pos ha, if_pos hb]; exact (node_ext h1 h2 h3 (ha.trans hb.symm)).symm
  · rw [if_pos ha, if_neg hb]
  · rw [if_neg ha, if_pos hb]
  · rw [if_neg ha, if_neg hb]
    exact node_ext h1 h2 h3 (h4.elim id fun h => h.elim (fun h => absurd h ha) fun h => absurd h hb)
theorem merge_comm (a b : Nt) : mergeN a b = mergeN b a := by
  unfold mergeN
  rw [Bool.and_comm, agree_comm]
  split
  · split
    · rename_i _ h
      rw [pick_comm (by rw [agree_comm]; exact h)]
    · rfl
  · rfl
theorem agree_self (a : Nt) : agreeN a a = true := agree_iff.2 ⟨rfl, rfl, rfl, .inl rfl⟩
theorem merge_self {a : Nt} (h : validN a = true) : mergeN a a = (a, 0) := by
  unfold mergeN
  rw [h, agree_self, Bool.and_self, if_pos rfl, if_pos rfl]
  split <;> rfl
theorem merge_yes {a b : Nt} (h : (mergeN a b).2 = 0) : validN a = true ∧ validN b = true ∧ agreeN a b = true ∧ (mergeN a b).1 = if b.2.2.2 = 0 then b else a := by
  unfold mergeN at h ⊢
  split at h
  · rename_i hv
    split at h
    · rename_i ha
      rw [if_pos hv, if_pos ha]
      rw [Bool.and_eq_true] at hv
      exact ⟨hv.1, hv.2, ha, rfl⟩
    · cases h
  · cases h
theorem merge_code (a b : Nt) : (mergeN a b).2 = 0 ∨ (mergeN a b).1 = zeroN ∧ ((mergeN a b).2 = 2 ∨ (mergeN a b).2 = 15) := by
  unfold mergeN
  split
  · split
    · exact .inl rfl
    · exact .inr ⟨rfl, .inr rfl⟩
  · exact .inr ⟨rfl, .inl rfl⟩
theorem merge_dead {a b : Nt} (h : (mergeN a b).2 = 0) : deadN (mergeN a b).1 = (deadN a || deadN b) ∧ validN (mergeN a b).1 = true := by
  obtain ⟨h1, h2, h3, h4⟩ := merge_yes h
  rw [h4]
  unfold deadN
  by_cases hb : b.2.2.2 = 0
  · rw [if_pos hb]; exact ⟨by simp [hb], h2⟩
  · rw [if_neg hb]; exact ⟨by simp [hb], h1⟩
theorem merge_agree {a b c : Nt} (hab : agreeN a b = true) (hbc : agreeN b c = true) (hac : agreeN a c = true) : agreeN (if b.2.2.2 = 0 then b else a) c = true := by
  split
  · exact hbc
  · exact hac
/-- How three nodes are grouped does not matter. -/
theorem merge_assoc {a b c : Nt} (h1 : (mergeN a b).2 = 0) (h2 : (mergeN b c).2 = 0) (h3 : (mergeN a c).2 = 0) :
    (mergeN (mergeN a b).1 c).2 = 0 ∧ mergeN a (mergeN b c).1 = mergeN (mergeN a b).1 c := by
  obtain ⟨va, vb, hab, e1⟩ := merge_yes h1
  obtain ⟨-, vc, hbc, e2⟩ := merge_yes h2
  obtain ⟨-, -, hac, e3⟩ := merge_yes h3
  have v1 := (merge_dead h1).2
  have v2 := (merge_dead h2).2
  have g1 := merge_agree hab hbc hac
  have g2 : agreeN a (if c.2.2.2 = 0 then c else b) = true := by
    split
    · exact hac
    · exact hab
  have m1 : mergeN (mergeN a b).1 c = (if c.2.2.2 = 0 then c else if b.2.2.2 = 0 then b else a, 0) := by
    rw [e1] at v1 ⊢
    unfold mergeN
    rw [v1, vc, g1, Bool.and_self, if_pos rfl, if_pos rfl]
  have m2 : mergeN a (mergeN b c).1 = (if (if c.2.2.2 = 0 then c else b).2.2.2 = 0 then (if c.2.2.2 = 0 then c else b) else a, 0) := by
    rw [e2] at v2 ⊢
    unfold mergeN
    rw [va, v2, g2, Bool.and_self, if_pos rfl, if_pos rfl]
  rw [m1, m2]
  refine ⟨rfl, ?_⟩
  by_cases hc : c.2.2.2 = 0
  · simp [hc]
  · by_cases hb : b.2.2.2 = 0 <;> simp [hc, hb]

/-! ### What is written -/
theorem dig_range (u : Nat) : ∀ c ∈ Lib.decDigits u, 48 ≤ c.toNat ∧ c.toNat ≤ 57 := by
  induction u using Nat.strongRecOn with
  | _ u ih =>
    intro c hc
    by_cases h : u < 10
    · rw [dig_small h] at hc
      rw [List.mem_singleton.1 hc, dig_nat h]
      omega
    · rw [dig_big h] at hc
      rcases List.mem_append.1 hc with hc | hc
      · exact ih (u / 10) (by omega) c hc
      · rw [List.mem_singleton.1 hc, dig_nat (Nat.mod_lt _ (by omega))]
        omega
theorem dig_sp (u : Nat) : (32 : UInt8) ∉ Lib.decDigits u := fun h => absurd (dig_range u _ h).1 (by decide)
theorem txt_sp (d : Dt) : (32 : UInt8) ∉ txtD d := by
  intro hc
  unfold txtD at hc
  split at hc
  · simp [rootT] at hc
  · rcases List.mem_append.1 hc with hc | hc
    · rcases List.mem_append.1 hc with hc | hc
      · exact dig_sp _ hc
      · simp at hc
    · exact dig_sp _ hc
theorem du_sp (d : Nat) (h : d < 16) : R.du d ≠ 32 := by
  have : d = 0 ∨ d = 1 ∨ d = 2 ∨ d = 3 ∨ d = 4 ∨ d = 5 ∨ d = 6 ∨ d = 7 ∨ d = 8 ∨ d = 9 ∨ d = 10 ∨ d = 11 ∨ d = 12 ∨ d = 13 ∨ d = 14 ∨ d = 15 := by omega
  rcases this with rfl | rfl | rfl | rfl | rfl | rfl | rfl | rfl | rfl | rfl | rfl | rfl | rfl | rfl | rfl | rfl <;> decide
theorem nm_sp (n : Nat) : (32 : UInt8) ∉ R.nm n := by
  intro hc
  unfold R.nm at hc
  rcases List.mem_append.1 hc with hc | hc
  · rcases List.mem_append.1 hc with hc | hc
    · simp at hc
    · have := List.eq_of_mem_replicate hc
      exact absurd this (by decide)
  · obtain ⟨d, hd, e⟩ := List.mem_map.1 hc
    exact du_sp d (R.digs_lt n d hd) e
def runeT (r : Int) : List UInt8 := if r = 0 then [45] else R.nm r.toNat
theorem rune_sp (r : Int) : (32 : UInt8) ∉ runeT r := by
  unfold runeT
  split
  · simp
  · exact nm_sp _
def txtN (n : Nt) : List UInt8 := txtD n.1 ++ 32 :: (txtD n.2.1 ++ 32 :: (Lib.decDigits n.2.2.1.toNat ++ 32 :: runeT n.2.2.2))

/-! ### The parts between spaces -/
def wordsL : List UInt8 → List (List UInt8)
  | [] => [[]]
  | c :: t => if c = 32 then [] :: wordsL t else match wordsL t with | [] => [[c]] | x :: r => (c :: x) :: r
theorem words_ne : ∀ l, wordsL l ≠ []
  | [] => by simp [wordsL]
  | c :: t => by
    rw [wordsL]
    split
    · simp
    · split <;> simp
theorem words_app : ∀ (x y : List UInt8), (32 : UInt8) ∉ x → wordsL (x ++ 32 :: y) = x :: wordsL y
  | [], y, _ => by rw [List.nil_append, wordsL, if_pos rfl]
  | c :: t, y, h => by
    have hc : c ≠ 32 := fun e => h (by rw [e]; simp)
    rw [List.cons_append, wordsL, if_neg hc, words_app t y fun hh => h (by simp [hh])]
theorem words_one : ∀ (x : List UInt8), (32 : UInt8) ∉ x → wordsL x = [x]
  | [], _ => rfl
  | c :: t, h => by
    have hc : c ≠ 32 := fun e => h (by rw [e]; simp)
    rw [wordsL, if_neg hc, words_one t fun hh => h (by simp [hh])]
theorem words_txt (n : Nt) : wordsL (txtN n) = [txtD n.1, txtD n.2.1, Lib.decDigits n.2.2.1.toNat, runeT n.2.2.2] := by
  unfold txtN
  rw [words_app _ _ (txt_sp _), words_app _ _ (txt_sp _), words_app _ _ (dig_sp _), words_one _ (rune_sp _)]
theorem words_len : ∀ l : List UInt8, (wordsL l).length ≤ l.length + 1
  | [] => by simp [wordsL]
  | c :: t => by
    have ih := words_len t
    rw [wordsL]
    split
    · simp; omega
    · split
      · simp
      · rename_i h; rw [h] at ih; simp at ih ⊢; omega
/-- What a split into at most so many parts gives. -/
def splitW : Nat → List UInt8 → List (List UInt8)
  | 0, l => [l]
  | k + 1, l => if (32 : UInt8) ∈ l then l.takeWhile (· ≠ 32) :: splitW k ((l.dropWhile (· ≠ 32)).drop 1) else [l]
theorem at_space {l : List UInt8} (h : (32 : UInt8) ∈ l) : l = l.takeWhile (· ≠ 32) ++ 32 :: (l.dropWhile (· ≠ 32)).drop 1 ∧ (32 : UInt8) ∉ l.takeWhile (· ≠ 32) := by
  induction l with
  | nil => simp at h
  | cons c t ih =>
    by_cases hc : c = 32
    · subst hc
      simp
    · have ht : (32 : UInt8) ∈ t := by
        rcases List.mem_cons.1 h with e | e
        · exact absurd e.symm hc
        · exact e
      obtain ⟨i1, i2⟩ := ih ht
      rw [List.takeWhile_cons, List.dropWhile_cons, if_pos (by simpa using hc), if_pos (by simpa using hc)]
      exact ⟨by rw [List.cons_append, ← i1], fun hh => (List.mem_cons.1 hh).elim (fun e => hc e.symm) i2⟩
theorem splitW_words : ∀ (k : Nat) (l : List UInt8), splitW k l = wordsL l ∨ ((splitW k l).length = k + 1 ∧ k + 1 < (wordsL l).length)
  | 0, l => by
    rw [splitW]
    by_cases h : (32 : UInt8) ∈ l
    · right
      obtain ⟨e, hn⟩ := at_space h
      have hw : wordsL l = l.takeWhile (· ≠ 32) :: wordsL ((l.dropWhile (· ≠ 32)).drop 1) := by
        conv => lhs; rw [e]
        exact words_app _ _ hn
      rw [hw]
      have h1 : 0 < (wordsL ((l.dropWhile (· ≠ 32)).drop 1)).length := List.length_pos_iff.2 (words_ne _)
      exact ⟨rfl, by rw [List.length_cons]; omega⟩
    · left; exact (words_one l h).symm
  | k + 1, l => by
    rw [splitW]
    by_cases h : (32 : UInt8) ∈ l
    · rw [if_pos h]
      obtain ⟨e, hn⟩ := at_space h
      have hw : wordsL l = l.takeWhile (· ≠ 32) :: wordsL ((l.dropWhile (· ≠ 32)).drop 1) := by
        conv => lhs; rw [e]
        exact words_app _ _ hn
      rcases splitW_words k ((l.dropWhile (· ≠ 32)).drop 1) with ih | ⟨i1, i2⟩
      · left; rw [hw, ih]
      · right; rw [hw]; simp only [List.length_cons]; omega
    · rw [if_neg h]
      left; exact (words_one l h).symm

/-! ### What is read -/
/-- The reference's number. -/
def tR : Nat → List UInt8 → Nat
  | n, [] => n
  | n, c :: t => if c.toNat < 48 ∨ 57 < c.toNat ∨ 461168601842738790 < n then 0 else tR (10 * n + c.toNat - 48) t
theorem tR_dig (a : Nat) : ∀ (t : List UInt8), a ≤ 4611686018427387909 → tR 0 (Lib.decDigits a ++ t) = tR a t := by
  induction a using Nat.strongRecOn with
  | _ a ih =>
    intro t ha
    by_cases h : a < 10
    · rw [dig_small h, List.singleton_append, tR, dig_nat h, if_neg (by omega)]
      congr 1
      omega
    · rw [dig_big h, List.append_assoc, ih (a / 10) (by omega) _ (by omega), List.singleton_append, tR, dig_nat (Nat.mod_lt _ (by omega)), if_neg (by omega)]
      congr 1
      omega
theorem tR_txt {a : Nat} (h : a ≤ 4611686018427387904) : tR 0 (Lib.decDigits a) = a := by
  have := tR_dig a [] (by omega)
  rw [List.append_nil] at this
  rw [this, tR]
/-- The text of one node is no other one's. -/
theorem dig_inj {a b : Nat} (ha : a ≤ 4611686018427387904) (hb : b ≤ 4611686018427387904) (h : Lib.decDigits a = Lib.decDigits b) : a = b := by
  have := tR_txt ha
  rw [h, tR_txt hb] at this
  exact this.symm
theorem vld_nat {r : Int} (h : R.vld r = true) : ∃ n : Nat, r = (n : Int) ∧ R.vld (n : Int) = true ∧ n ≤ 1114111 ∧ 0 < n := by
  have k := R.vld_iff.1 h
  exact ⟨r.toNat, by omega, by rw [Int.toNat_of_nonneg (by omega)]; exact h, by omega, by omega⟩
theorem nm_inj {a b : Nat} (ha : a ≤ 1114111) (hb : b ≤ 1114111) (h : R.nm a = R.nm b) : a = b := by
  have h1 := (R.nm_pU a ha).2
  rw [h, (R.nm_pU b hb).2] at h1
  exact (Option.some.inj h1).symm
theorem nm_ne_dash {a : Nat} (h : a ≤ 1114111) : R.nm a ≠ [45] := by
  intro e
  have := (R.nm_len a h).1
  rw [e] at this
  simp at this
theorem rune_inj {r s : Int} (hr : r = 0 ∨ R.vld r = true) (hs : s = 0 ∨ R.vld s = true) (h : runeT r = runeT s) : r = s := by
  unfold runeT at h
  rcases hr with rfl | hr
  · rcases hs with rfl | hs
    · rfl
    · obtain ⟨n, rfl, -, hn, h0⟩ := vld_nat hs
      rw [if_pos rfl, if_neg (by omega), Int.toNat_natCast] at h
      exact absurd h.symm (nm_ne_dash hn)
  · obtain ⟨m, rfl, -, hm, hm0⟩ := vld_nat hr
    rw [if_neg (by omega), Int.toNat_natCast] at h
    rcases hs with rfl | hs
    · rw [if_pos rfl] at h
      exact absurd h (nm_ne_dash hm)
    · obtain ⟨n, rfl, -, hn, h0⟩ := vld_nat hs
      rw [if_neg (by omega), Int.toNat_natCast] at h
      rw [nm_inj hm hn h]
theorem txtN_inj {m n : Nt} (hm : VN m) (hn : VN n) (h : txtN m = txtN n) : m = n := by
  have e := words_txt m
  rw [h, words_txt n] at e
  simp only [List.cons.injEq, and_true] at e
  obtain ⟨e1, e2, e3, e4⟩ := e
  obtain ⟨m1, m2, m3, m4, m5, m6⟩ := hm
  obtain ⟨n1, n2, n3, n4, n5, n6⟩ := hn
  refine node_ext (txt_inj (.inl m1) (.inl n1) e1.symm) (txt_inj m2 n2 e2.symm) ?_ (rune_inj m6 n6 e4.symm)
  have := dig_inj (by omega) (by omega) e3
  omega
end Go.Proofs.YtmmcnpcijeahcabGreatDoor.Nd
