/-
  All the characters of some bytes, and their bytes again.
-/
import Derived.Test.YtmmcnpcijeahcabGreatDoorRUtf
namespace Go.Proofs.YtmmcnpcijeahcabGreatDoor.R
set_option linter.unusedVariables false

/-- Is there no character? -/
def bad (p : Nat × Nat) : Bool := p.1 == 65533 && p.2 == 1

def decF : Nat → List UInt8 → Option (List Nat)
  | 0, _ => some []
  | f + 1, l => if l = [] then some [] else if bad (fst1 l) = true then none else (decF f (l.drop (fst1 l).2)).map ((fst1 l).1 :: ·)
/-- The numbers of the characters, if all bytes are of characters. -/
def dec (l : List UInt8) : Option (List Nat) := decF l.length l

theorem fst1_at (l : List UInt8) (hl : l ≠ []) : ((fst1 l).1 = 65533 ∧ (fst1 l).2 = 1) ∨ (scal (fst1 l).1 = true ∧ l.take (fst1 l).2 = enc (fst1 l).1 ∧ (fst1 l).2 = (enc (fst1 l).1).length ∧ (fst1 l).2 ≤ l.length) :=
  fst1_found l hl (fst1 l).1 (fst1 l).2 rfl
theorem fst1_size (l : List UInt8) (hl : l ≠ []) : 1 ≤ (fst1 l).2 ∧ (fst1 l).2 ≤ l.length := by
  have hp := List.length_pos_iff.2 hl
  rcases fst1_at l hl with ⟨_, h⟩ | ⟨_, _, h, h'⟩
  · omega
  · have := (enc_len (fst1 l).1).1
    omega
theorem fst1_scal (l : List UInt8) (hl : l ≠ []) : scal (fst1 l).1 = true := by
  rcases fst1_at l hl with ⟨h, _⟩ | ⟨h, _⟩
  · rw [h]; decide
  · exact h

theorem decF_any : ∀ (n : Nat) (l : List UInt8), l.length ≤ n → decF n l = decF l.length l
  | 0, l, h => by
    have : l = [] := List.eq_nil_of_length_eq_zero (by omega)
    subst this; rfl
  | n + 1, l, h => by
    rcases l with _ | ⟨a, l⟩
    · simp [decF]
    · have hs := fst1_size (a :: l) (by simp)
      show decF (n + 1) (a :: l) = decF (l.length + 1) (a :: l)
      unfold decF
      have hd : ((a :: l).drop (fst1 (a :: l)).2).length ≤ l.length := by rw [List.length_drop]; simp only [List.length_cons] at hs ⊢; omega
      simp only [List.length_cons] at h
      rw [decF_any n _ (by omega), ← decF_any l.length _ hd]
termination_by n l _ => n

theorem dec_nil : dec [] = some [] := rfl
theorem dec_bad {l : List UInt8} (hl : l ≠ []) (h : bad (fst1 l) = true) : dec l = none := by
  rcases l with _ | ⟨a, l⟩
  · exact absurd rfl hl
  · show decF (l.length + 1) (a :: l) = none
    unfold decF
    rw [if_neg hl, if_pos h]
theorem dec_good {l : List UInt8} (hl : l ≠ []) (h : bad (fst1 l) = false) : dec l = (dec (l.drop (fst1 l).2)).map ((fst1 l).1 :: ·) := by
  rcases l with _ | ⟨a, l⟩
  · exact absurd rfl hl
  · have hs := fst1_size (a :: l) (by simp)
    have hd : ((a :: l).drop (fst1 (a :: l)).2).length ≤ l.length := by rw [List.length_drop]; simp only [List.length_cons] at hs ⊢; omega
    show decF (l.length + 1) (a :: l) = _
    unfold decF dec
    rw [if_neg hl, if_neg (by simp [h]), decF_any _ _ hd]

/-- The bytes of some numbers, one after the other. -/
def encs (rs : List Nat) : List UInt8 := rs.flatMap enc
theorem encs_nil : encs [] = [] := rfl
theorem encs_cons (r : Nat) (rs : List Nat) : encs (r :: rs) = enc r ++ encs rs := rfl
theorem encs_append (rs ts : List Nat) : encs (rs ++ ts) = encs rs ++ encs ts := by simp [encs]
theorem encs_len (rs : List Nat) : rs.length ≤ (encs rs).length ∧ (encs rs).length ≤ 4 * rs.length := by
  induction rs with
  | nil => simp [encs]
  | cons r rs ih =>
    have := enc_len r
    rw [encs_cons, List.length_append, List.length_cons]
    omega

theorem bad_enc {c : Nat} (hc : scal c = true) : bad (c, (enc c).length) = false := by
  simp only [bad, Bool.and_eq_false_iff, beq_eq_false_iff_ne]
  by_cases h : c = 65533
  · subst h; right; decide
  · exact .inl h

theorem dec_cons (c : Nat) (t : List UInt8) (hc : scal c = true) : dec (enc c ++ t) = (dec t).map (c :: ·) := by
  have h := fst1_enc c t hc
  rw [dec_good (by have := enc_ne c; simp [this]) (by rw [h]; exact bad_enc hc), h, List.drop_left]
theorem dec_encs_app : ∀ (rs : List Nat) (t : List UInt8), (∀ r ∈ rs, scal r = true) → dec (encs rs ++ t) = (dec t).map (rs ++ ·)
  | [], t, _ => by cases h : dec t <;> simp [encs, h]
  | r :: rs, t, h => by
    rw [encs_cons, List.append_assoc, dec_cons r _ (h r (by simp)), dec_encs_app rs t (fun x hx => h x (by simp [hx]))]
    cases dec t <;> simp
theorem dec_encs (rs : List Nat) (h : ∀ r ∈ rs, scal r = true) : dec (encs rs) = some rs := by
  have := dec_encs_app rs [] h
  simpa [dec_nil] using this

/-- What was found is all of it. -/
theorem dec_some : ∀ (n : Nat) (l : List UInt8) (rs : List Nat), l.length ≤ n → dec l = some rs → encs rs = l ∧ ∀ r ∈ rs, scal r = true
  | n, [], rs, _, h => by
    rw [dec_nil] at h
    cases h
    exact ⟨rfl, by simp⟩
  | 0, a :: l, rs, hn, h => by simp at hn
  | n + 1, a :: l, rs, hn, h => by
    have hl : a :: l ≠ [] := by simp
    by_cases hb : bad (fst1 (a :: l)) = true
    · rw [dec_bad hl hb] at h; cases h
    · have hb' : bad (fst1 (a :: l)) = false := by simpa using hb
      rw [dec_good hl hb'] at h
      rcases hd : dec ((a :: l).drop (fst1 (a :: l)).2) with _ | ts
      · rw [hd] at h; cases h
      · rw [hd] at h
        simp only [Option.map_some, Option.some.injEq] at h
        subst h
        have hs := fst1_size (a :: l) hl
        obtain ⟨i1, i2⟩ := dec_some n _ ts (by rw [List.length_drop]; simp only [List.length_cons] at hn hs ⊢; omega) hd
        rcases fst1_at (a :: l) hl with ⟨h1, h2⟩ | ⟨h1, h2, h3, h4⟩
        · simp [bad, h1, h2] at hb
        · refine ⟨?_, ?_⟩
          · rw [encs_cons, i1, ← h2, List.take_append_drop]
          · intro r hr
            simp only [List.mem_cons] at hr
            rcases hr with rfl | hr
            · exact h1
            · exact i2 r hr
theorem dec_iff (l : List UInt8) (rs : List Nat) : dec l = some rs ↔ encs rs = l ∧ ∀ r ∈ rs, scal r = true :=
  ⟨dec_some _ l rs (Nat.le_refl _), fun ⟨h1, h2⟩ => by rw [← h1]; exact dec_encs rs h2⟩

/-- How many characters, or the error. -/
def lenR (l : List UInt8) : Nat × Nat := match dec l with | none => (0, 12) | some rs => if 0 ∈ rs then (0, 13) else (rs.length, 0)
/-- The characters, or none. -/
def decR (l : List UInt8) : List Nat × Nat := match dec l with | none => ([], 12) | some rs => if 0 ∈ rs then ([], 13) else (rs, 0)
theorem lenR_decR (l : List UInt8) : lenR l = ((decR l).1.length, (decR l).2) := by
  unfold lenR decR
  cases dec l with
  | none => rfl
  | some rs => simp only; split <;> rfl
theorem decR_ok {l : List UInt8} (h : (decR l).2 = 0) : encs (decR l).1 = l ∧ (∀ r ∈ (decR l).1, scal r = true) ∧ 0 ∉ (decR l).1 := by
  unfold decR at h ⊢
  rcases hd : dec l with _ | rs
  · rw [hd] at h; cases h
  · rw [hd] at h
    simp only at h ⊢
    split at h
    · cases h
    · rename_i h0
      rw [if_neg h0]
      exact ⟨((dec_iff l rs).1 hd).1, ((dec_iff l rs).1 hd).2, h0⟩
theorem decR_encs {rs : List Nat} (h : ∀ r ∈ rs, scal r = true) (h0 : 0 ∉ rs) : decR (encs rs) = (rs, 0) := by
  unfold decR
  rw [dec_encs rs h]
  simp only [if_neg h0]
theorem decR_fail {l : List UInt8} (h : (decR l).2 ≠ 0) : (decR l).1 = [] ∧ ((decR l).2 = 12 ∨ (decR l).2 = 13) := by
  unfold decR at h ⊢
  cases hd : dec l with
  | none => exact ⟨rfl, .inl rfl⟩
  | some rs =>
    rw [hd] at h
    simp only at h ⊢
    split at h
    · rename_i h0; rw [if_pos h0]; exact ⟨rfl, .inr rfl⟩
    · exact absurd rfl h

/-- A rune that may be in a text. -/
def vld (r : Int) : Bool := decide (0 < r) && decide (r < 55296) || decide (57344 ≤ r) && decide (r ≤ 1114111)
theorem vld_iff {r : Int} : vld r = true ↔ (0 < r ∧ r < 55296) ∨ (57344 ≤ r ∧ r ≤ 1114111) := by simp [vld]
theorem vld_scal {n : Nat} : vld (n : Int) = (scal n && n != 0) := by
  rw [Bool.eq_iff_iff, vld_iff, Bool.and_eq_true, scal_iff, bne_iff_ne]
  omega

end Go.Proofs.YtmmcnpcijeahcabGreatDoor.R
