/-
  UTF-8, plainly: the bytes of a number, the first character of some bytes, and all of them.
-/
import GoSem.Core.Utf8
import Derived.Lib.Strings

section
namespace Go.Proofs.Ytfmlenhakejefaa.R
set_option linter.unusedVariables false

/-- A scalar value. -/
def scal (n : Nat) : Bool := decide (n < 55296) || (decide (57344 ≤ n) && decide (n ≤ 1114111))
theorem scal_iff {n : Nat} : scal n = true ↔ (n < 55296 ∨ (57344 ≤ n ∧ n ≤ 1114111)) := by simp [scal]

def u (n : Nat) : UInt8 := UInt8.ofNat n
theorem u_toNat {n : Nat} (h : n < 256) : (u n).toNat = n := by simp [u, UInt8.toNat_ofNat']; omega
theorem u_eq {n : Nat} {c : UInt8} (h : c.toNat = n) : u n = c := by
  have := c.toNat_lt
  exact UInt8.toNat_inj.1 (by rw [u_toNat (by omega), h])

/-- The bytes of a scalar value. -/
def enc (n : Nat) : List UInt8 :=
  if n < 128 then [u n]
  else if n < 2048 then [u (192 + n / 64), u (128 + n % 64)]
  else if n < 65536 then [u (224 + n / 4096), u (128 + n / 64 % 64), u (128 + n % 64)]
  else [u (240 + n / 262144), u (128 + n / 4096 % 64), u (128 + n / 64 % 64), u (128 + n % 64)]

theorem enc_len (n : Nat) : 1 ≤ (enc n).length ∧ (enc n).length ≤ 4 := by
  unfold enc; split
  · simp
  · split
    · simp
    · split <;> simp
theorem enc_ne (n : Nat) : enc n ≠ [] := fun e => by have := (enc_len n).1; rw [e] at this; simp at this

theorem valid_of_scal {n : Nat} (h : scal n = true) : Utf8.valid (n : Int) = true := by
  rw [scal_iff] at h
  simp [Utf8.valid]; omega
theorem utf8_encode {n : Nat} (h : scal n = true) : Utf8.encode (n : Int) = ⟨(enc n).toArray⟩ := by
  unfold Utf8.encode enc u
  rw [valid_of_scal h]
  simp only [if_true, Int.toNat_natCast]
  split
  · rfl
  · split
    · rfl
    · split <;> rfl

/-! ### The first character: the number and how many bytes, (65533, 1) if there is none -/
def at8 (l : List UInt8) (k : Nat) : Nat := (l.getD k 0).toNat
def cont (l : List UInt8) (k : Nat) : Bool := decide (k < l.length) && at8 l k / 64 == 2
def fst1 (l : List UInt8) : Nat × Nat :=
  let b0 := at8 l 0
  if b0 < 128 then (b0, 1)
  else if b0 / 32 == 6 && cont l 1 then
    let c := (b0 % 32) * 64 + at8 l 1 % 64
    if c ≥ 128 then (c, 2) else (65533, 1)
  else if b0 / 16 == 14 && cont l 1 && cont l 2 then
    let c := (b0 % 16) * 4096 + (at8 l 1 % 64) * 64 + at8 l 2 % 64
    if c ≥ 2048 && scal c then (c, 3) else (65533, 1)
  else if b0 / 8 == 30 && cont l 1 && cont l 2 && cont l 3 then
    let c := (b0 % 8) * 262144 + (at8 l 1 % 64) * 4096 + (at8 l 2 % 64) * 64 + at8 l 3 % 64
    if c ≥ 65536 && scal c then (c, 4) else (65533, 1)
  else (65533, 1)

theorem at8_lt (l : List UInt8) (k : Nat) : at8 l k < 256 := UInt8.toNat_lt _

theorem scal_valid (c : Nat) : Utf8.valid (c : Int) = scal c := by
  simp only [Utf8.valid, scal]
  rw [Bool.eq_iff_iff]
  simp; omega

theorem utf8_decode (s : ByteArray) (i : Nat) (hi : i ≤ s.size) : Utf8.decode s i = fst1 (s.data.toList.drop i) := by
  have hat : ∀ k, (s.get! (i + k)).toNat = at8 (s.data.toList.drop i) k := by
    intro k
    unfold at8
    congr 1
    simp only [ByteArray.get!, List.getD_eq_getElem?_getD, List.getElem?_drop, Array.getElem?_toList]
    rw [getElem!_def]
    cases h : s.data[i + k]? <;> simp <;> rfl
  have hlen : (s.data.toList.drop i).length = s.size - i := by rw [List.length_drop]; rfl
  have hct : ∀ k, (decide (i + k < s.size) && at8 (s.data.toList.drop i) k / 64 == 2) = cont (s.data.toList.drop i) k := by
    intro k
    unfold cont
    rw [hlen]
    congr 1
    exact decide_eq_decide.2 (by omega)
  unfold Utf8.decode fst1
  simp only [hat, hct, scal_valid, Utf8.runeError, ge_iff_le]

/-- What is found stands there. -/
theorem fst1_found (l : List UInt8) (hl : l ≠ []) (c k : Nat) (h : fst1 l = (c, k)) : (c = 65533 ∧ k = 1) ∨ (scal c = true ∧ l.take k = enc c ∧ k = (enc c).length ∧ k ≤ l.length) := by
  rcases l with _ | ⟨a, l⟩
  · exact absurd rfl hl
  have ha := a.toNat_lt
  unfold fst1 at h
  simp only [at8, List.getD_cons_zero] at h
  split at h
  · rename_i h0
    simp only [Prod.mk.injEq] at h
    obtain ⟨rfl, rfl⟩ := h
    right
    refine ⟨scal_iff.2 (by omega), ?_, ?_, by simp⟩
    · unfold enc; rw [if_pos h0, u_eq (c := a) rfl]; rfl
    · unfold enc; rw [if_pos h0]; rfl
  · rename_i h0
    split at h
    · rename_i h1
      simp only [cont, at8, Bool.and_eq_true, beq_iff_eq, decide_eq_true_eq] at h1
      split at h
      · rename_i h2
        rcases l with _ | ⟨b, l⟩
        · simp at h1
        simp only [List.getD_cons_succ, List.getD_cons_zero, Prod.mk.injEq] at h h1 h2
        have hb := b.toNat_lt
        obtain ⟨rfl, rfl⟩ := h
        right
        have e : enc (a.toNat % 32 * 64 + b.toNat % 64) = [a, b] := by
          unfold enc
          rw [if_neg (by omega), if_pos (by omega), u_eq (c := a) (by omega), u_eq (c := b) (by omega)]
        rw [e]
        exact ⟨scal_iff.2 (by omega), rfl, rfl, by simp⟩
      · simp only [Prod.mk.injEq] at h
        exact .inl ⟨h.1.symm, h.2.symm⟩
    · split at h
      · rename_i h1
        simp only [cont, at8, Bool.and_eq_true, beq_iff_eq, decide_eq_true_eq] at h1
        split at h
        · rename_i h2
          rcases l with _ | ⟨b, _ | ⟨d, l⟩⟩
          · simp at h1
          · simp at h1
          simp only [List.getD_cons_succ, List.getD_cons_zero, Prod.mk.injEq, Bool.and_eq_true, decide_eq_true_eq] at h h1 h2
          have hb := b.toNat_lt
          have hd := d.toNat_lt
          obtain ⟨rfl, rfl⟩ := h
          right
          have e : enc (a.toNat % 16 * 4096 + b.toNat % 64 * 64 + d.toNat % 64) = [a, b, d] := by
            unfold enc
            rw [if_neg (by omega), if_neg (by omega), if_pos (by omega), u_eq (c := a) (by omega), u_eq (c := b) (by omega), u_eq (c := d) (by omega)]
          rw [e]
          exact ⟨h2.2, rfl, rfl, by simp⟩
        · simp only [Prod.mk.injEq] at h
          exact .inl ⟨h.1.symm, h.2.symm⟩
      · split at h
        · rename_i h1
          simp only [cont, at8, Bool.and_eq_true, beq_iff_eq, decide_eq_true_eq] at h1
          split at h
          · rename_i h2
            rcases l with _ | ⟨b, _ | ⟨d, _ | ⟨f, l⟩⟩⟩
            · simp at h1
            · simp at h1
            · simp at h1
            simp only [List.getD_cons_succ, List.getD_cons_zero, Prod.mk.injEq, Bool.and_eq_true, decide_eq_true_eq] at h h1 h2
            have hb := b.toNat_lt
            have hd := d.toNat_lt
            have hf := f.toNat_lt
            obtain ⟨rfl, rfl⟩ := h
            right
            have e : enc (a.toNat % 8 * 262144 + b.toNat % 64 * 4096 + d.toNat % 64 * 64 + f.toNat % 64) = [a, b, d, f] := by
              unfold enc
              rw [if_neg (by omega), if_neg (by omega), if_neg (by omega), u_eq (c := a) (by omega), u_eq (c := b) (by omega), u_eq (c := d) (by omega), u_eq (c := f) (by omega)]
            rw [e]
            exact ⟨h2.2, rfl, rfl, by simp⟩
          · simp only [Prod.mk.injEq] at h
            exact .inl ⟨h.1.symm, h.2.symm⟩
        · simp only [Prod.mk.injEq] at h
          exact .inl ⟨h.1.symm, h.2.symm⟩

/-- What stands there is found. -/
theorem fst1_enc (c : Nat) (t : List UInt8) (hc : scal c = true) : fst1 (enc c ++ t) = (c, (enc c).length) := by
  have hs := scal_iff.1 hc
  unfold enc
  by_cases h1 : c < 128
  · rw [if_pos h1]
    unfold fst1
    simp only [List.cons_append, List.nil_append, at8, List.getD_cons_zero, u_toNat (show c < 256 by omega), if_pos h1, List.length_singleton]
  · rw [if_neg h1]
    by_cases h2 : c < 2048
    · rw [if_pos h2]
      have e0 : (u (192 + c / 64)).toNat = 192 + c / 64 := u_toNat (by omega)
      have e1 : (u (128 + c % 64)).toNat = 128 + c % 64 := u_toNat (by omega)
      unfold fst1
      simp only [List.cons_append, List.nil_append, at8, cont, List.getD_cons_zero, List.getD_cons_succ, e0, e1, List.length_cons]
      rw [if_neg (by omega), if_pos (by simp; omega), if_pos (by omega)]
      refine Prod.ext ?_ rfl
      show _ = c
      omega
    · rw [if_neg h2]
      by_cases h3 : c < 65536
      · rw [if_pos h3]
        have e0 : (u (224 + c / 4096)).toNat = 224 + c / 4096 := u_toNat (by omega)
        have e1 : (u (128 + c / 64 % 64)).toNat = 128 + c / 64 % 64 := u_toNat (by omega)
        have e2 : (u (128 + c % 64)).toNat = 128 + c % 64 := u_toNat (by omega)
        unfold fst1
        simp only [List.cons_append, List.nil_append, at8, cont, List.getD_cons_zero, List.getD_cons_succ, e0, e1, e2, List.length_cons]
        have ec : (224 + c / 4096) % 16 * 4096 + (128 + c / 64 % 64) % 64 * 64 + (128 + c % 64) % 64 = c := by omega
        rw [if_neg (by omega), if_neg (by simp; omega), if_pos (by simp; omega), ec, if_pos (by simp [hc]; omega)]
        rfl
      · rw [if_neg h3]
        have e0 : (u (240 + c / 262144)).toNat = 240 + c / 262144 := u_toNat (by omega)
        have e1 : (u (128 + c / 4096 % 64)).toNat = 128 + c / 4096 % 64 := u_toNat (by omega)
        have e2 : (u (128 + c / 64 % 64)).toNat = 128 + c / 64 % 64 := u_toNat (by omega)
        have e3 : (u (128 + c % 64)).toNat = 128 + c % 64 := u_toNat (by omega)
        unfold fst1
        simp only [List.cons_append, List.nil_append, at8, cont, List.getD_cons_zero, List.getD_cons_succ, e0, e1, e2, e3, List.length_cons]
        have ec : (240 + c / 262144) % 8 * 262144 + (128 + c / 4096 % 64) % 64 * 4096 + (128 + c / 64 % 64) % 64 * 64 + (128 + c % 64) % 64 = c := by omega
        rw [if_neg (by omega), if_neg (by simp; omega), if_neg (by simp; omega), if_pos (by simp; omega), ec, if_pos (by simp [hc]; omega)]
        rfl

end Go.Proofs.Ytfmlenhakejefaa.R
end

/-
  All the characters of some bytes, and their bytes again.
-/
section
namespace Go.Proofs.Ytfmlenhakejefaa.R
set_option linter.unusedVariables false

/-- Is there no character? -/
def bad (p : Nat × Nat) : Bool := p.1 == 65533 && p.2 == 1

def decF : Nat → List UInt8 → Option (List Nat)
  | 0, _ => some []
  | f + 1, l => if l = [] then some [] else if bad (fst1 l) = true then none else (decF f (l.drop (fst1 l).2)).map ((fst1 l).1 :: ·)
/-- The numbers of the characters, if all bytes are of characters. -/
def dec (l : List UInt8) : Option (List Nat) := decF l.length l

theorem fst1_at (l : List UInt8) (hl : l ≠ []) : ((fst1 l).1 = 65533 ∧ (fst1 l).2 = 1) ∨ (scal (fst1 l).1 = true ∧ l.take (fst1 l).2 = enc (fst1 l).1 ∧ (fst1 l).2 = (enc (fst1 l).1).length ∧ (fst1 l).2 ≤ l.length) :=
  fst1_found l hl (fst1 l).1 (fst1 l).2 rfl
theorem fst1_size (l : List UInt8) (hl : l ≠ []) : 1 ≤ (fst1 l).2 ∧ (fst1 l).2 ≤ l.length := by
  have hp := List.length_pos_iff.2 hl
  rcases fst1_at l hl with ⟨_, h⟩ | ⟨_, _, h, h'⟩
  · omega
  · have := (enc_len (fst1 l).1).1
    omega
theorem fst1_scal (l : List UInt8) (hl : l ≠ []) : scal (fst1 l).1 = true := by
  rcases fst1_at l hl with ⟨h, _⟩ | ⟨h, _⟩
  · rw [h]; decide
  · exact h

theorem decF_any : ∀ (n : Nat) (l : List UInt8), l.length ≤ n → decF n l = decF l.length l
  | 0, l, h => by
    have : l = [] := List.eq_nil_of_length_eq_zero (by omega)
    subst this; rfl
  | n + 1, l, h => by
    rcases l with _ | ⟨a, l⟩
    · simp [decF]
    · have hs := fst1_size (a :: l) (by simp)
      show decF (n + 1) (a :: l) = decF (l.length + 1) (a :: l)
      unfold decF
      have hd : ((a :: l).drop (fst1 (a :: l)).2).length ≤ l.length := by rw [List.length_drop]; simp only [List.length_cons] at hs ⊢; omega
      simp only [List.length_cons] at h
      rw [decF_any n _ (by omega), ← decF_any l.length _ hd]
termination_by n l _ => n

theorem dec_nil : dec [] = some [] := rfl
theorem dec_bad {l : List UInt8} (hl : l ≠ []) (h : bad (fst1 l) = true) : dec l = none := by
  rcases l with _ | ⟨a, l⟩
  · exact absurd rfl hl
  · show decF (l.length + 1) (a :: l) = none
    unfold decF
    rw [if_neg hl, if_pos h]
theorem dec_good {l : List UInt8} (hl : l ≠ []) (h : bad (fst1 l) = false) : dec l = (dec (l.drop (fst1 l).2)).map ((fst1 l).1 :: ·) := by
  rcases l with _ | ⟨a, l⟩
  · exact absurd rfl hl
  · have hs := fst1_size (a :: l) (by simp)
    have hd : ((a :: l).drop (fst1 (a :: l)).2).length ≤ l.length := by rw [List.length_drop]; simp only [List.length_cons] at hs ⊢; omega
    show decF (l.length + 1) (a :: l) = _
    unfold decF dec
    rw [if_neg hl, if_neg (by simp [h]), decF_any _ _ hd]

/-- The bytes of some numbers, one after the other. -/
def encs (rs : List Nat) : List UInt8 := rs.flatMap enc
theorem encs_nil : encs [] = [] := rfl
theorem encs_cons (r : Nat) (rs : List Nat) : encs (r :: rs) = enc r ++ encs rs := rfl
theorem encs_append (rs ts : List Nat) : encs (rs ++ ts) = encs rs ++ encs ts := by simp [encs]
theorem encs_len (rs : List Nat) : rs.length ≤ (encs rs).length ∧ (encs rs).length ≤ 4 * rs.length := by
  induction rs with
  | nil => simp [encs]
  | cons r rs ih =>
    have := enc_len r
    rw [encs_cons, List.length_append, List.length_cons]
    omega

theorem bad_enc {c : Nat} (hc : scal c = true) : bad (c, (enc c).length) = false := by
  simp only [bad, Bool.and_eq_false_iff, beq_eq_false_iff_ne]
  by_cases h : c = 65533
  · subst h; right; decide
  · exact .inl h

theorem dec_cons (c : Nat) (t : List UInt8) (hc : scal c = true) : dec (enc c ++ t) = (dec t).map (c :: ·) := by
  have h := fst1_enc c t hc
  rw [dec_good (by have := enc_ne c; simp [this]) (by rw [h]; exact bad_enc hc), h, List.drop_left]
theorem dec_encs_app : ∀ (rs : List Nat) (t : List UInt8), (∀ r ∈ rs, scal r = true) → dec (encs rs ++ t) = (dec t).map (rs ++ ·)
  | [], t, _ => by cases h : dec t <;> simp [encs, h]
  | r :: rs, t, h => by
    rw [encs_cons, List.append_assoc, dec_cons r _ (h r (by simp)), dec_encs_app rs t (fun x hx => h x (by simp [hx]))]
    cases dec t <;> simp
theorem dec_encs (rs : List Nat) (h : ∀ r ∈ rs, scal r = true) : dec (encs rs) = some rs := by
  have := dec_encs_app rs [] h
  simpa [dec_nil] using this

/-- What was found is all of it. -/
theorem dec_some : ∀ (n : Nat) (l : List UInt8) (rs : List Nat), l.length ≤ n → dec l = some rs → encs rs = l ∧ ∀ r ∈ rs, scal r = true
  | n, [], rs, _, h => by
    rw [dec_nil] at h
    cases h
    exact ⟨rfl, by simp⟩
  | 0, a :: l, rs, hn, h => by simp at hn
  | n + 1, a :: l, rs, hn, h => by
    have hl : a :: l ≠ [] := by simp
    by_cases hb : bad (fst1 (a :: l)) = true
    · rw [dec_bad hl hb] at h; cases h
    · have hb' : bad (fst1 (a :: l)) = false := by simpa using hb
      rw [dec_good hl hb'] at h
      rcases hd : dec ((a :: l).drop (fst1 (a :: l)).2) with _ | ts
      · rw [hd] at h; cases h
      · rw [hd] at h
        simp only [Option.map_some, Option.some.injEq] at h
        subst h
        have hs := fst1_size (a :: l) hl
        obtain ⟨i1, i2⟩ := dec_some n _ ts (by rw [List.length_drop]; simp only [List.length_cons] at hn hs ⊢; omega) hd
        rcases fst1_at (a :: l) hl with ⟨h1, h2⟩ | ⟨h1, h2, h3, h4⟩
        · simp [bad, h1, h2] at hb
        · refine ⟨?_, ?_⟩
          · rw [encs_cons, i1, ← h2, List.take_append_drop]
          · intro r hr
            simp only [List.mem_cons] at hr
            rcases hr with rfl | hr
            · exact h1
            · exact i2 r hr
theorem dec_iff (l : List UInt8) (rs : List Nat) : dec l = some rs ↔ encs rs = l ∧ ∀ r ∈ rs, scal r = true :=
  ⟨dec_some _ l rs (Nat.le_refl _), fun ⟨h1, h2⟩ => by rw [← h1]; exact dec_encs rs h2⟩

/-- How many characters, or the error. -/
def lenR (l : List UInt8) : Nat × Nat := match dec l with | none => (0, 12) | some rs => if 0 ∈ rs then (0, 13) else (rs.length, 0)
/-- The characters, or none. -/
def decR (l : List UInt8) : List Nat × Nat := match dec l with | none => ([], 12) | some rs => if 0 ∈ rs then ([], 13) else (rs, 0)
theorem lenR_decR (l : List UInt8) : lenR l = ((decR l).1.length, (decR l).2) := by
  unfold lenR decR
  cases dec l with
  | none => rfl
  | some rs => simp only; split <;> rfl
theorem decR_ok {l : List UInt8} (h : (decR l).2 = 0) : encs (decR l).1 = l ∧ (∀ r ∈ (decR l).1, scal r = true) ∧ 0 ∉ (decR l).1 := by
  unfold decR at h ⊢
  rcases hd : dec l with _ | rs
  · rw [hd] at h; cases h
  · rw [hd] at h
    simp only at h ⊢
    split at h
    · cases h
    · rename_i h0
      rw [if_neg h0]
      exact ⟨((dec_iff l rs).1 hd).1, ((dec_iff l rs).1 hd).2, h0⟩
theorem decR_encs {rs : List Nat} (h : ∀ r ∈ rs, scal r = true) (h0 : 0 ∉ rs) : decR (encs rs) = (rs, 0) := by
  unfold decR
  rw [dec_encs rs h]
  simp only [if_neg h0]
theorem decR_fail {l : List UInt8} (h : (decR l).2 ≠ 0) : (decR l).1 = [] ∧ ((decR l).2 = 12 ∨ (decR l).2 = 13) := by
  unfold decR at h ⊢
  cases hd : dec l with
  | none => exact ⟨rfl, .inl rfl⟩
  | some rs =>
    rw [hd] at h
    simp only at h ⊢
    split at h
    · rename_i h0; rw [if_pos h0]; exact ⟨rfl, .inr rfl⟩
    · exact absurd rfl h

/-- A rune that may be in a text. -/
def vld (r : Int) : Bool := decide (0 < r) && decide (r < 55296) || decide (57344 ≤ r) && decide (r ≤ 1114111)
theorem vld_iff {r : Int} : vld r = true ↔ (0 < r ∧ r < 55296) ∨ (57344 ≤ r ∧ r ≤ 1114111) := by simp [vld]
theorem vld_scal {n : Nat} : vld (n : Int) = (scal n && n != 0) := by
  rw [Bool.eq_iff_iff, vld_iff, Bool.and_eq_true, scal_iff, bne_iff_ne]
  omega

end Go.Proofs.Ytfmlenhakejefaa.R
end
