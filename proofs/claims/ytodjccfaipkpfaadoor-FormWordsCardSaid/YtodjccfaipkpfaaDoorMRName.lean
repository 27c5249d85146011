/-
  The names of runes: what Name and ByName return.
-/
import Derived.Test.YtodjccfaipkpfaaDoorRParse
import Derived.StillTailTactics
import Derived.Test.YtodjccfaipkpfaaDoorMRUtf

section
namespace Go.Proofs.YtodjccfaipkpfaaDoor.R
set_option linter.unusedVariables false
open Go.RowKit V

theorem valid_lib (r : Int) : vld r = (r != 0 && Lib.validRune r) := by
  rw [Bool.eq_iff_iff, vld_iff, Bool.and_eq_true, bne_iff_ne]
  unfold Lib.validRune
  simp
  omega

set_option maxHeartbeats 400000 in
theorem valid_any (r : Int) (w : World) : Calls Tryd.prog 45 #[.int .i32 r] w fun e w' => e = .returned (.bool (vld r)) ∧ w = w' := by
  have HV := Lib.hid (valid_lib r)
  by_cases h : r = 0
  · subst h
    go_enter Tryd.func45, Tryd.ntmps45
    go_wp2_with fail
    go_ret
    exact ⟨rfl, rfl⟩
  · have h1 : (r != 0) = true := by rw [bne_iff_ne]; exact h
    have hb : Lib.validRune r = vld r := by rw [HV.out, h1, Bool.true_and]
    have HC := Lib.hid (Tryd.utf8_ValidRune r w)
    rw [hb] at HC
    clear hb
    go_enter Tryd.func45, Tryd.ntmps45
    go_wp2_with (go_at_call 48; refine HC.out.mono ?_; rintro e w' ⟨rfl, rfl⟩)
    go_ret
    exact ⟨rfl, rfl⟩
theorem valid_yes (r : Int) (w : World) (h : vld r = true) : Calls Tryd.prog 45 #[.int .i32 r] w fun e w' => e = .returned (.bool true) ∧ w = w' := by
  have := valid_any r w; rw [h] at this; exact this
theorem valid_not (r : Int) (w : World) (h : vld r = false) : Calls Tryd.prog 45 #[.int .i32 r] w fun e w' => e = .returned (.bool false) ∧ w = w' := by
  have := valid_any r w; rw [h] at this; exact this

/-- How many bytes a rune has. -/
def szr (r : Int) : Nat := if vld r = true then (enc r.toNat).length else 0
theorem szr_lib {r : Int} (h : vld r = true) : Lib.runeLen r = (szr r : Int) := by
  rw [vld_iff] at h
  unfold szr
  rw [if_pos (vld_iff.2 h)]
  unfold Lib.runeLen enc
  obtain ⟨n, rfl⟩ := Int.eq_ofNat_of_zero_le (show 0 ≤ r by omega)
  rw [Int.toNat_natCast, if_neg (by omega)]
  by_cases h1 : n < 128
  · rw [if_pos (by omega), if_pos h1]; rfl
  · rw [if_neg (by omega), if_neg h1]
    by_cases h2 : n < 2048
    · rw [if_pos (by omega), if_pos h2]; rfl
    · rw [if_neg (by omega), if_neg h2, if_neg (by omega)]
      by_cases h3 : n < 65536
      · rw [if_pos (by omega), if_pos h3]; rfl
      · rw [if_neg (by omega), if_neg h3, if_pos (by omega)]; rfl
theorem hex_ascii (n : Nat) : ∀ (j : Nat) (b : UInt8), (hex n)[j]? = some b → b.toNat < 128 := by
  intro j b h
  have := List.mem_of_getElem? h
  unfold hex at this
  simp only [List.mem_map] at this
  obtain ⟨d, hd, rfl⟩ := this
  exact dl_ascii (digs_lt n d hd)
theorem rep48 (c : Nat) : Lib.repeatL [48] c = List.replicate c 48 := by
  induction c with
  | zero => rfl
  | succ c ih => rw [Lib.repeatL, ih, List.replicate_succ]; rfl

end Go.Proofs.YtodjccfaipkpfaaDoor.R
end

/-
  The reference of layer 2: single runes.
-/
section
namespace Go.Proofs.YtodjccfaipkpfaaDoor.R
set_option linter.unusedVariables false
open Go.RowKit V

/-- A scalar value, of any number. -/
def sclI (n : Int) : Bool := decide (0 ≤ n) && scal n.toNat
theorem sclI_nat (n : Nat) : sclI (n : Int) = scal n := by simp [sclI]
theorem sclI_iff {n : Int} : sclI n = true ↔ (0 ≤ n ∧ n < 55296) ∨ (57344 ≤ n ∧ n ≤ 1114111) := by
  simp only [sclI, Bool.and_eq_true, decide_eq_true_eq, scal_iff]; omega
set_option maxHeartbeats 400000 in
theorem scalar_any (n : Int) (w : World) : Calls Tryd.prog 41 #[.int .i64 n] w fun e w' => e = .returned (.bool (sclI n)) ∧ w = w' := by
  by_cases h0 : 0 ≤ n
  · have b0 : decide (0 ≤ n) = true := by simpa using h0
    by_cases h1 : n ≤ 1114111
    · have b1 : decide (n ≤ 1114111) = true := by simpa using h1
      by_cases h2 : n < 55296
      · have b2 : decide (n < 55296) = true := by simpa using h2
        have HN : Hid (sclI n = true) := sclI_iff.2 (by omega)
        go_enter Tryd.func41, Tryd.ntmps41
        go_wp2_with fail
        go_ret
        exact ⟨by rw [HN.out]; rfl, rfl⟩
      · have b2 : decide (n < 55296) = false := by simpa using h2
        by_cases h3 : 57343 < n
        · have b3 : decide (57343 < n) = true := by simpa using h3
          have HN : Hid (sclI n = true) := sclI_iff.2 (by omega)
          go_enter Tryd.func41, Tryd.ntmps41
          go_wp2_with fail
          go_ret
          exact ⟨by rw [HN.out]; rfl, rfl⟩
        · have b3 : decide (57343 < n) = false := by simpa using h3
          have HN : Hid (sclI n = false) := by show _ = _; rw [Bool.eq_false_iff]; intro h; rw [sclI_iff] at h; omega
          go_enter Tryd.func41, Tryd.ntmps41
          go_wp2_with fail
          go_ret
          exact ⟨by rw [HN.out]; rfl, rfl⟩
    · have b1 : decide (n ≤ 1114111) = false := by simpa using h1
      have HN : Hid (sclI n = false) := by show _ = _; rw [Bool.eq_false_iff]; intro h; rw [sclI_iff] at h; omega
      go_enter Tryd.func41, Tryd.ntmps41
      go_wp2_with fail
      go_ret
      exact ⟨by rw [HN.out]; rfl, rfl⟩
  · have b0 : decide (0 ≤ n) = false := by simpa using h0
    have HN : Hid (sclI n = false) := by show _ = _; rw [Bool.eq_false_iff]; intro h; rw [sclI_iff] at h; omega
    go_enter Tryd.func41, Tryd.ntmps41
    go_wp2_with fail
    go_ret
    exact ⟨by rw [HN.out]; rfl, rfl⟩

theorem vld_scl (r : Int) : vld r = (r != 0 && sclI r) := by
  rw [Bool.eq_iff_iff, vld_iff, Bool.and_eq_true, bne_iff_ne, sclI_iff]; omega
set_option maxHeartbeats 400000 in
theorem rvalid_any (r : Int) (w : World) (hr : -2147483648 ≤ r ∧ r ≤ 2147483647) : Calls Tryd.prog 35 #[.int .i32 r] w fun e w' => e = .returned (.bool (vld r)) ∧ w = w' := by
  have HV := Lib.hid (vld_scl r)
  by_cases h : r = 0
  · subst h
    go_enter Tryd.func35, Tryd.ntmps35
    go_wp2_with fail
    go_ret
    exact ⟨rfl, rfl⟩
  · have h1 : (r != 0) = true := by rw [bne_iff_ne]; exact h
    have hb : sclI r = vld r := by rw [HV.out, h1, Bool.true_and]
    have HC := Lib.hid (scalar_any r w)
    rw [hb] at HC
    obtain ⟨hr1, hr2⟩ := hr
    clear hb
    go_enter Tryd.func35, Tryd.ntmps35
    go_wp2_with (go_at_call 41; refine HC.out.mono ?_; rintro e w' ⟨rfl, rfl⟩)
    go_ret
    exact ⟨rfl, rfl⟩
theorem rvalid_yes (r : Int) (w : World) (h : vld r = true) : Calls Tryd.prog 35 #[.int .i32 r] w fun e w' => e = .returned (.bool true) ∧ w = w' := by
  have := rvalid_any r w (by rw [vld_iff] at h; omega); rw [h] at this; exact this
theorem rvalid_not (r : Int) (w : World) (hr : -2147483648 ≤ r ∧ r ≤ 2147483647) (h : vld r = false) : Calls Tryd.prog 35 #[.int .i32 r] w fun e w' => e = .returned (.bool false) ∧ w = w' := by
  have := rvalid_any r w hr; rw [h] at this; exact this

theorem row_cells (w : World) (l : List UInt8) (C : Array Value) (t : TypeId) (hC : C.toList = cells8 l) : Row8 (w.alloc (.cells C t)) (some ⟨w.heap.size, 0, none⟩) l := by
  by_cases hl : l = []
  · exact .inl hl
  refine .inr ⟨_, _, rfl, fun i hi => ?_⟩
  rw [Nat.zero_add, World.cell?_alloc_new w C t i, ← Array.getElem?_toList, hC]
  simp [cells8, hi]

end Go.Proofs.YtodjccfaipkpfaaDoor.R
end

/-
  The reference of layer 2: the first character, and all of them.
-/
section
namespace Go.Proofs.YtodjccfaipkpfaaDoor.R
set_option linter.unusedVariables false
open Go.RowKit V

theorem ba_ext {S : ByteArray} {l : List UInt8} (h : S.data.toList = l) : S = ⟨l.toArray⟩ := by
  apply ByteArray.ext
  rw [← h]
theorem idx_str (l : List UInt8) (k : Nat) (hk : k < l.length) (kd : IntKind) (w : World) :
    (Instr.index 9 (.string ⟨l.toArray⟩) (.int kd (k : Int))).run Tryd.prog w = .ok (.int .u8 (at8 l k : Int)) w := by
  have h1 : (⟨l.toArray⟩ : ByteArray)[k]? = some l[k] := by
    show (l.toArray)[k]? = _
    simp [hk]
  simp [Instr.index, run_underlying Tryd.underlying9, asIntOf, Result.andThen, h1, at8, hk]

end Go.Proofs.YtodjccfaipkpfaaDoor.R
end
