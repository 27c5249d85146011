/-
  The text of a vector, plainly, and what is read as one.
-/
import Derived.Test.YtefnoajkdhgonaaEPure
namespace Go.Proofs.Ytefnoajkdhgonaa.E
set_option linter.unusedVariables false
open D Go.Lib

theorem dig_range (u : Nat) : ∀ c ∈ decDigits u, 48 ≤ c.toNat ∧ c.toNat ≤ 57 := by
  induction u using Nat.strongRecOn with
  | _ u ih =>
    intro c hc
    by_cases h : u < 10
    · rw [dig_small h] at hc
      rw [List.mem_singleton.1 hc, dig_nat h]
      omega
    · rw [dig_big h] at hc
      rcases List.mem_append.1 hc with hc | hc
      · exact ih (u / 10) (by omega) c hc
      · rw [List.mem_singleton.1 hc, dig_nat (Nat.mod_lt _ (by omega))]
        omega
/-- No text of a dot has a space. -/
theorem txt_no_space (d : Dt) : ∀ c ∈ txtD d, c ≠ 32 := by
  intro c hc e
  subst e
  unfold txtD at hc
  split at hc
  · simp [rootT] at hc
  · rcases List.mem_append.1 hc with hc | hc
    · rcases List.mem_append.1 hc with hc | hc
      · exact absurd (dig_range _ _ hc).1 (by decide)
      · simp at hc
    · exact absurd (dig_range _ _ hc).1 (by decide)
def tailV (t : List Dt) : List UInt8 := t.flatMap fun d => 32 :: txtD d
def txtV : List Dt → List UInt8
  | [] => [45]
  | a :: t => txtD a ++ tailV t
/-- The reference's loop: the dots that were read, the bytes since the last space, and what is left. -/
def fL : List Dt → List UInt8 → List UInt8 → Option (List Dt)
  | acc, cur, [] => match prsD cur with | none => none | some d => some (acc ++ [d])
  | acc, cur, c :: t => if c = 32 then (match prsD cur with | none => none | some d => fL (acc ++ [d]) [] t) else fL acc (cur ++ [c]) t
def prsV (l : List UInt8) : Option (List Dt) :=
  if l = [45] then some [] else match fL [] [] l with | none => none | some v => if validV v = true then some v else none
theorem fL_run : ∀ (x : List UInt8) (acc : List Dt) (cur rest : List UInt8), (∀ c ∈ x, c ≠ 32) → fL acc cur (x ++ rest) = fL acc (cur ++ x) rest
  | [], acc, cur, rest, _ => by rw [List.append_nil]; rfl
  | c :: t, acc, cur, rest, h => by
    rw [List.cons_append, fL, if_neg (h c (by simp)), fL_run t acc (cur ++ [c]) rest (fun y hy => h y (by simp [hy]))]
    congr 1
    simp
theorem fL_tail : ∀ (t : List Dt) (acc : List Dt) (d : Dt), named d → (∀ x ∈ t, named x) → fL acc (txtD d) (tailV t) = some (acc ++ d :: t)
  | [], acc, d, hd, _ => by
    show fL acc (txtD d) [] = _
    rw [fL, prs_txt hd]
  | x :: t, acc, d, hd, ht => by
    show fL acc (txtD d) (32 :: txtD x ++ tailV t) = _
    rw [List.cons_append, fL, if_pos rfl, prs_txt hd]
    simp only
    rw [fL_run (txtD x) _ _ _ (txt_no_space x), List.nil_append, fL_tail t _ x (ht x (by simp)) (fun y hy => ht y (by simp [hy]))]
    simp
theorem txtV_head {a : Dt} {t : List Dt} (ha : validR a = true) : txtV (a :: t) ≠ [45] := by
  show txtD a ++ tailV t ≠ _
  rw [txt_valid ha]
  obtain ⟨c, u, he, h1, h2⟩ := dig_first a.1.toNat
  rw [he]
  intro e
  have : c = 45 := by simpa using congrArg List.head? e
  subst this
  exact absurd h1 (by decide)
theorem prsV_txt {v : List Dt} (hv : Vd v) : prsV (txtV v) = some v := by
  cases v with
  | nil => rfl
  | cons a t =>
    have h := (vd_cons.1 hv)
    unfold prsV
    rw [if_neg (txtV_head h.1)]
    show (match fL [] [] (txtD a ++ tailV t) with | none => none | some v => if validV v = true then some v else none) = _
    rw [fL_run _ _ _ _ (txt_no_space a), List.nil_append, fL_tail t [] a (.inl h.1) (fun x hx => .inl (h.2.2.1 x hx))]
    simp only [List.nil_append]
    rw [if_pos ((valid_vd _).2 hv)]
/-- What the loop reads is written so: dots that were read, then the texts of the further ones. -/
theorem fL_back : ∀ (l cur : List UInt8) (acc v : List Dt), fL acc cur l = some v → ∃ d t, v = acc ++ d :: t ∧ cur ++ l = txtD d ++ tailV t
  | [], cur, acc, v, h => by
    rw [fL] at h
    cases hp : prsD cur with
    | none => rw [hp] at h; cases h
    | some d =>
      rw [hp] at h
      cases h
      exact ⟨d, [], rfl, by rw [List.append_nil]; show cur = txtD d ++ []; rw [List.append_nil, ← (prs_back hp).2]⟩
  | c :: l, cur, acc, v, h => by
    rw [fL] at h
    split at h
    · rename_i e
      subst e
      cases hp : prsD cur with
      | none => rw [hp] at h; cases h
      | some d =>
        rw [hp] at h
        obtain ⟨d2, t, h1, h2⟩ := fL_back l [] (acc ++ [d]) v h
        refine ⟨d, d2 :: t, by rw [h1]; simp, ?_⟩
        rw [List.nil_append] at h2
        rw [h2, (prs_back hp).2]
        show txtD d ++ 32 :: (txtD d2 ++ tailV t) = txtD d ++ (32 :: txtD d2 ++ tailV t)
        rfl
    · obtain ⟨d, t, h1, h2⟩ := fL_back l (cur ++ [c]) acc v h
      exact ⟨d, t, h1, by rw [← h2]; simp⟩
theorem prsV_back {l : List UInt8} {v : List Dt} (h : prsV l = some v) : Vd v ∧ l = txtV v := by
  unfold prsV at h
  split at h
  · rename_i e
    cases h
    exact ⟨vd_nil, e⟩
  · split at h
    · cases h
    · rename_i x hx
      split at h
      · rename_i hh
        cases h
        obtain ⟨d, t, h1, h2⟩ := fL_back l [] [] _ hx
        rw [List.nil_append] at h1 h2
        refine ⟨(valid_vd _).1 hh, ?_⟩
        rw [h2, h1]
        rfl
      · cases h
theorem txtV_inj {v u : List Dt} (hv : Vd v) (hu : Vd u) (h : txtV v = txtV u) : v = u := by
  have h1 := prsV_txt hv
  rw [h, prsV_txt hu] at h1
  exact (Option.some.inj h1).symm
/-- Whatever reads valid vectors' texts, and only those, reads as the reference does. -/
theorem prsV_iff {l : List UInt8} {v : List Dt} : prsV l = some v ↔ Vd v ∧ l = txtV v :=
  ⟨prsV_back, fun h => by rw [h.2]; exact prsV_txt h.1⟩
theorem prsV_none {l : List UInt8} (h : ∀ v, Vd v → l ≠ txtV v) : prsV l = none := by
  cases hp : prsV l with
  | none => rfl
  | some v => exact absurd (prsV_back hp).2 (h v (prsV_back hp).1)

/-! ### Parts between spaces, as strings.Split and strings.Join say it -/
/-- The parts of a row of bytes between its spaces. -/
def parts : List UInt8 → List UInt8 → List (List UInt8)
  | cur, [] => [cur]
  | cur, c :: t => if c = 32 then cur :: parts [] t else parts (cur ++ [c]) t
/-- All of some parts as dots, or none. -/
def readAll : List (List UInt8) → Option (List Dt)
  | [] => some []
  | x :: t => match prsD x with | none => none | some d => (match readAll t with | none => none | some v => some (d :: v))
theorem fL_parts : ∀ (l cur : List UInt8) (acc : List Dt), fL acc cur l = match readAll (parts cur l) with | none => none | some v => some (acc ++ v)
  | [], cur, acc => by
    rw [fL, parts, readAll]
    cases hp : prsD cur with
    | none => rfl
    | some d => rfl
  | c :: l, cur, acc => by
    rw [fL, parts]
    split
    · rw [readAll]
      cases hp : prsD cur with
      | none => rfl
      | some d =>
        simp only
        rw [fL_parts l [] (acc ++ [d])]
        cases readAll (parts [] l) with
        | none => rfl
        | some v => simp
    · exact fL_parts l (cur ++ [c]) acc
theorem prsV_parts (l : List UInt8) : prsV l = if l = [45] then some [] else match readAll (parts [] l) with | none => none | some v => if validV v = true then some v else none := by
  unfold prsV
  rw [fL_parts]
  cases readAll (parts [] l) with
  | none => rfl
  | some v => simp
/-- The texts of some dots, joined by single spaces. -/
def joinT : List (List UInt8) → List UInt8
  | [] => []
  | a :: t => a ++ t.flatMap fun x => 32 :: x
theorem txtV_join {a : Dt} {t : List Dt} : txtV (a :: t) = joinT ((a :: t).map txtD) := by
  show txtD a ++ tailV t = txtD a ++ _
  congr 1
  unfold tailV
  induction t with
  | nil => rfl
  | cons x t ih => simp [ih]
theorem tail_app (t : List Dt) (d : Dt) : tailV (t ++ [d]) = tailV t ++ 32 :: txtD d := by
  unfold tailV
  simp
/-- How long a text may be. -/
theorem dig_len2 (u : Nat) : ∀ k, u < 10 ^ k → 0 < k → (decDigits u).length ≤ k := by
  induction u using Nat.strongRecOn with
  | _ u ih =>
    intro k hk h0
    by_cases h : u < 10
    · rw [dig_small h]; simp; omega
    · rw [dig_big h]
      obtain ⟨j, rfl⟩ : ∃ j, k = j + 1 := ⟨k - 1, by omega⟩
      have hj : 0 < j := by
        rcases Nat.eq_zero_or_pos j with rfl | h2
        · exact absurd hk (by simpa using h)
        · exact h2
      have := ih (u / 10) (by omega) j (by rw [Nat.pow_succ] at hk; omega) hj
      simp
      omega
theorem txt_len2 {d : Dt} (h : validR d = true) : (txtD d).length ≤ 13 := by
  have hv := valid_iff.1 h
  rw [txt_valid h]
  have h1 := dig_len2 d.1.toNat 2 (by omega) (by omega)
  have h2 := dig_len2 d.2.toNat 10 (by omega) (by omega)
  simp
  omega
theorem tail_len : ∀ (t : List Dt), (∀ x ∈ t, validR x = true) → (tailV t).length ≤ 14 * t.length
  | [], _ => by simp [tailV]
  | a :: t, h => by
    have h1 := txt_len2 (h a (by simp))
    have h2 := tail_len t fun x hx => h x (by simp [hx])
    have e : (tailV (a :: t)).length = 1 + (txtD a).length + (tailV t).length := by
      show (32 :: txtD a ++ tailV t).length = _
      simp
      omega
    rw [e]
    simp
    omega
theorem txtV_len : ∀ (v : List Dt), Vd v → (txtV v).length ≤ 14 * v.length + 1
  | [], _ => by simp [txtV]
  | a :: t, h => by
    have h1 := txt_len2 (h.1 a (by simp))
    have h2 := tail_len t fun x hx => h.1 x (by simp [hx])
    show (txtD a ++ tailV t).length ≤ _
    simp
    omega
/-- A vector has at most 64 dots. -/
theorem inc_len : ∀ (v : List Dt) (lo hi : Int), Inc v → (∀ x ∈ v, lo ≤ x.1 ∧ x.1 ≤ hi) → (v.length : Int) ≤ max 0 (hi - lo + 1)
  | [], lo, hi, _, _ => by simp; omega
  | a :: t, lo, hi, hv, h => by
    unfold Inc at hv
    rw [List.pairwise_cons] at hv
    have := inc_len t (a.1 + 1) hi hv.2 fun x hx => by
      have h1 := hv.1 x hx
      have h2 := h x (by simp [hx])
      omega
    have h3 := h a (by simp)
    simp
    omega
theorem vd_len {v : List Dt} (hv : Vd v) : v.length ≤ 64 := by
  have := inc_len v 1 64 hv.2 fun x hx => by have := valid_iff.1 (hv.1 x hx); omega
  omega
end Go.Proofs.Ytefnoajkdhgonaa.E
