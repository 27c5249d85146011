/-
  UTF-8, plainly: the bytes of a number, the first character of some bytes, and all of them.
-/
import GoSem.Core.Utf8
import Derived.Lib.Strings
namespace Go.Proofs.YtmmcnpcijeahcabGreatDoor.R
set_option linter.unusedVariables false

/-- A scalar value. -/
def scal (n : Nat) : Bool := decide (n < 55296) || (decide (57344 ≤ n) && decide (n ≤ 1114111))
theorem scal_iff {n : Nat} : scal n = true ↔ (n < 55296 ∨ (57344 ≤ n ∧ n ≤ 1114111)) := by simp [scal]

def u (n : Nat) : UInt8 := UInt8.ofNat n
theorem u_toNat {n : Nat} (h : n < 256) : (u n).toNat = n := by simp [u, UInt8.toNat_ofNat']; omega
theorem u_eq {n : Nat} {c : UInt8} (h : c.toNat = n) : u n = c := by
  have := c.toNat_lt
  exact UInt8.toNat_inj.1 (by rw [u_toNat (by omega), h])

/-- The bytes of a scalar value. -/
def enc (n : Nat) : List UInt8 :=
  if n < 128 then [u n]
  else if n < 2048 then [u (192 + n / 64), u (128 + n % 64)]
  else if n < 65536 then [u (224 + n / 4096), u (128 + n / 64 % 64), u (128 + n % 64)]
  else [u (240 + n / 262144), u (128 + n / 4096 % 64), u (128 + n / 64 % 64), u (128 + n % 64)]

theorem enc_len (n : Nat) : 1 ≤ (enc n).length ∧ (enc n).length ≤ 4 := by
  unfold enc; split
  · simp
  · split
    · simp
    · split <;> simp
theorem enc_ne (n : Nat) : enc n ≠ [] := fun e => by have := (enc_len n).1; rw [e] at this; simp at this

theorem valid_of_scal {n : Nat} (h : scal n = true) : Utf8.valid (n : Int) = true := by
  rw [scal_iff] at h
  simp [Utf8.valid]; omega
theorem utf8_encode {n : Nat} (h : scal n = true) : Utf8.encode (n : Int) = ⟨(enc n).toArray⟩ := by
  unfold Utf8.encode enc u
  rw [valid_of_scal h]
  simp only [if_true, Int.toNat_natCast]
  split
  · rfl
  · split
    · rfl
    · split <;> rfl

/-! ### The first character: the number and how many bytes, (65533, 1) if there is none -/
def at8 (l : List UInt8) (k : Nat) : Nat := (l.getD k 0).toNat
def cont (l : List UInt8) (k : Nat) : Bool := decide (k < l.length) && at8 l k / 64 == 2
def fst1 (l : List UInt8) : Nat × Nat :=
  let b0 := at8 l 0
  if b0 < 128 then (b0, 1)
  else if b0 / 32 == 6 && cont l 1 then
    let c := (b0 % 32) * 64 + at8 l 1 % 64
    if c ≥ 128 then (c, 2) else (65533, 1)
  else if b0 / 16 == 14 && cont l 1 && cont l 2 then
    let c := (b0 % 16) * 4096 + (at8 l 1 % 64) * 64 + at8 l 2 % 64
    if c ≥ 2048 && scal c then (c, 3) else (65533, 1)
  else if b0 / 8 == 30 && cont l 1 && cont l 2 && cont l 3 then
    let c := (b0 % 8) * 262144 + (at8 l 1 % 64) * 4096 + (at8 l 2 % 64) * 64 + at8 l 3 % 64
    if c ≥ 65536 && scal c then (c, 4) else (65533, 1)
  else (65533, 1)

theorem at8_lt (l : List UInt8) (k : Nat) : at8 l k < 256 := UInt8.toNat_lt _

theorem scal_valid (c : Nat) : Utf8.valid (c : Int) = scal c := by
  simp only [Utf8.valid, scal]
  rw [Bool.eq_iff_iff]
  simp; omega

theorem utf8_decode (s : ByteArray) (i : Nat) (hi : i ≤ s.size) : Utf8.decode s i = fst1 (s.data.toList.drop i) := by
  have hat : ∀ k, (s.get! (i + k)).toNat = at8 (s.data.toList.drop i) k := by
    intro k
    unfold at8
    congr 1
    simp only [ByteArray.get!, List.getD_eq_getElem?_getD, List.getElem?_drop, Array.getElem?_toList]
    rw [getElem!_def]
    cases h : s.data[i + k]? <;> simp <;> rfl
  have hlen : (s.data.toList.drop i).length = s.size - i := by rw [List.length_drop]; rfl
  have hct : ∀ k, (decide (i + k < s.size) && at8 (s.data.toList.drop i) k / 64 == 2) = cont (s.data.toList.drop i) k := by
    intro k
    unfold cont
    rw [hlen]
    congr 1
    exact decide_eq_decide.2 (by omega)
  unfold Utf8.decode fst1
  simp only [hat, hct, scal_valid, Utf8.runeError, ge_iff_le, Nat.reduceLeDiff, decide_true, decide_eq_true_eq]

/-- What is found stands there. -/
theorem fst1_found (l : List UInt8) (hl : l ≠ []) (c k : Nat) (h : fst1 l = (c, k)) : (c = 65533 ∧ k = 1) ∨ (scal c = true ∧ l.take k = enc c ∧ k = (enc c).length ∧ k ≤ l.length) := by
  rcases l with _ | ⟨a, l⟩
  · exact absurd rfl hl
  have ha := a.toNat_lt
  unfold fst1 at h
  simp only [at8, List.getD_cons_zero] at h
  split at h
  · rename_i h0
    simp only [Prod.mk.injEq] at h
    obtain ⟨rfl, rfl⟩ := h
    right
    refine ⟨scal_iff.2 (by omega), ?_, ?_, by simp⟩
    · unfold enc; rw [if_pos h0, u_eq (c := a) rfl]; rfl
    · unfold enc; rw [if_pos h0]; rfl
  · rename_i h0
    split at h
    · rename_i h1
      simp only [cont, at8, Bool.and_eq_true, beq_iff_eq, decide_eq_true_eq] at h1
      split at h
      · rename_i h2
        rcases l with _ | ⟨b, l⟩
        · simp at h1
        simp only [List.getD_cons_succ, List.getD_cons_zero, Prod.mk.injEq] at h h1 h2
        have hb := b.toNat_lt
        obtain ⟨rfl, rfl⟩ := h
        right
        have e : enc (a.toNat % 32 * 64 + b.toNat % 64) = [a, b] := by
          unfold enc
          rw [if_neg (by omega), if_pos (by omega), u_eq (c := a) (by omega), u_eq (c := b) (by omega)]
        rw [e]
        exact ⟨scal_iff.2 (by omega), rfl, rfl, by simp⟩
      · simp only [Prod.mk.injEq] at h
        exact .inl ⟨h.1.symm, h.2.symm⟩
    · split at h
      · rename_i h1
        simp only [cont, at8, Bool.and_eq_true, beq_iff_eq, decide_eq_true_eq] at h1
        split at h
        · rename_i h2
          rcases l with _ | ⟨b, _ | ⟨d, l⟩⟩
          · simp at h1
          · simp at h1
          simp only [List.getD_cons_succ, List.getD_cons_zero, Prod.mk.injEq, Bool.and_eq_true, decide_eq_true_eq] at h h1 h2
          have hb := b.toNat_lt
          have hd := d.toNat_lt
          obtain ⟨rfl, rfl⟩ := h
          right
          have e : enc (a.toNat % 16 * 4096 + b.toNat % 64 * 64 + d.toNat % 64) = [a, b, d] := by
            unfold enc
            rw [if_neg (by omega), if_neg (by omega), if_pos (by omega), u_eq (c := a) (by omega), u_eq (c := b) (by omega), u_eq (c := d) (by omega)]
          rw [e]
          exact ⟨h2.2, rfl, rfl, by simp⟩
        · simp only [Prod.mk.injEq] at h
          exact .inl ⟨h.1.symm, h.2.symm⟩
      · split at h
        · rename_i h1
          simp only [cont, at8, Bool.and_eq_true, beq_iff_eq, decide_eq_true_eq] at h1
          split at h
          · rename_i h2
            rcases l with _ | ⟨b, _ | ⟨d, _ | ⟨f, l⟩⟩⟩
            · simp at h1
            · simp at h1
            · simp at h1
            simp only [List.getD_cons_succ, List.getD_cons_zero, Prod.mk.injEq, Bool.and_eq_true, decide_eq_true_eq] at h h1 h2
            have hb := b.toNat_lt
            have hd := d.toNat_lt
            have hf := f.toNat_lt
            obtain ⟨rfl, rfl⟩ := h
            right
            have e : enc (a.toNat % 8 * 262144 + b.toNat % 64 * 4096 + d.toNat % 64 * 64 + f.toNat % 64) = [a, b, d, f] := by
              unfold enc
              rw [if_neg (by omega), if_neg (by omega), if_neg (by omega), u_eq (c := a) (by omega), u_eq (c := b) (by omega), u_eq (c := d) (by omega), u_eq (c := f) (by omega)]
            rw [e]
            exact ⟨h2.2, rfl, rfl, by simp⟩
          · simp only [Prod.mk.injEq] at h
            exact .inl ⟨h.1.symm, h.2.symm⟩
        · simp only [Prod.mk.injEq] at h
          exact .inl ⟨h.1.symm, h.2.symm⟩

/-- What stands there is found. -/
theorem fst1_enc (c : Nat) (t : List UInt8) (hc : scal c = true) : fst1 (enc c ++ t) = (c, (enc c).length) := by
  have hs := scal_iff.1 hc
  unfold enc
  by_cases h1 : c < 128
  · rw [if_pos h1]
    unfold fst1
    simp only [List.cons_append, List.nil_append, at8, List.getD_cons_zero, u_toNat (show c < 256 by omega), if_pos h1, List.length_singleton]
  · rw [if_neg h1]
    by_cases h2 : c < 2048
    · rw [if_pos h2]
      have e0 : (u (192 + c / 64)).toNat = 192 + c / 64 := u_toNat (by omega)
      have e1 : (u (128 + c % 64)).toNat = 128 + c % 64 := u_toNat (by omega)
      unfold fst1
      simp only [List.cons_append, List.nil_append, at8, cont, List.getD_cons_zero, List.getD_cons_succ, e0, e1, List.length_cons]
      rw [if_neg (by omega), if_pos (by simp; omega), if_pos (by omega)]
      refine Prod.ext ?_ rfl
      show _ = c
      omega
    · rw [if_neg h2]
      by_cases h3 : c < 65536
      · rw [if_pos h3]
        have e0 : (u (224 + c / 4096)).toNat = 224 + c / 4096 := u_toNat (by omega)
        have e1 : (u (128 + c / 64 % 64)).toNat = 128 + c / 64 % 64 := u_toNat (by omega)
        have e2 : (u (128 + c % 64)).toNat = 128 + c % 64 := u_toNat (by omega)
        unfold fst1
        simp only [List.cons_append, List.nil_append, at8, cont, List.getD_cons_zero, List.getD_cons_succ, e0, e1, e2, List.length_cons]
        have ec : (224 + c / 4096) % 16 * 4096 + (128 + c / 64 % 64) % 64 * 64 + (128 + c % 64) % 64 = c := by omega
        rw [if_neg (by omega), if_neg (by simp; omega), if_pos (by simp; omega), ec, if_pos (by simp [hc]; omega)]
        rfl
      · rw [if_neg h3]
        have e0 : (u (240 + c / 262144)).toNat = 240 + c / 262144 := u_toNat (by omega)
        have e1 : (u (128 + c / 4096 % 64)).toNat = 128 + c / 4096 % 64 := u_toNat (by omega)
        have e2 : (u (128 + c / 64 % 64)).toNat = 128 + c / 64 % 64 := u_toNat (by omega)
        have e3 : (u (128 + c % 64)).toNat = 128 + c % 64 := u_toNat (by omega)
        unfold fst1
        simp only [List.cons_append, List.nil_append, at8, cont, List.getD_cons_zero, List.getD_cons_succ, e0, e1, e2, e3, List.length_cons]
        have ec : (240 + c / 262144) % 8 * 262144 + (128 + c / 4096 % 64) % 64 * 4096 + (128 + c / 64 % 64) % 64 * 64 + (128 + c % 64) % 64 = c := by omega
        rw [if_neg (by omega), if_neg (by simp; omega), if_neg (by simp; omega), if_pos (by simp; omega), ec, if_pos (by simp [hc]; omega)]
        rfl

end Go.Proofs.YtmmcnpcijeahcabGreatDoor.R
