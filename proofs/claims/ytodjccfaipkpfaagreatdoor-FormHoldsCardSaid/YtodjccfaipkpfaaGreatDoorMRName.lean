/-
  The names of runes: what Name and ByName return.
-/
import Derived.Test.YtodjccfaipkpfaaGreatDoorRParse
import Derived.StillTailTactics
import Derived.Test.YtodjccfaipkpfaaGreatDoorMRUtf

section
namespace Go.Proofs.YtodjccfaipkpfaaGreatDoor.R
set_option linter.unusedVariables false
open Go.RowKit V

theorem valid_lib (r : Int) : vld r = (r != 0 && Lib.validRune r) := by
  rw [Bool.eq_iff_iff, vld_iff, Bool.and_eq_true, bne_iff_ne]
  unfold Lib.validRune
  simp
  omega

set_option maxHeartbeats 400000 in
theorem valid_any (r : Int) (w : World) : Calls Tryz.prog 46 #[.int .i32 r] w fun e w' => e = .returned (.bool (vld r)) ∧ w = w' := by
  have HV := Lib.hid (valid_lib r)
  by_cases h : r = 0
  · subst h
    go_enter Tryz.func46, Tryz.ntmps46
    go_wp2_with fail
    go_ret
    exact ⟨rfl, rfl⟩
  · have h1 : (r != 0) = true := by rw [bne_iff_ne]; exact h
    have hb : Lib.validRune r = vld r := by rw [HV.out, h1, Bool.true_and]
    have HC := Lib.hid (Tryz.utf8_ValidRune r w)
    rw [hb] at HC
    clear hb
    go_enter Tryz.func46, Tryz.ntmps46
    go_wp2_with (go_at_call 65; refine HC.out.mono ?_; rintro e w' ⟨rfl, rfl⟩)
    go_ret
    exact ⟨rfl, rfl⟩
theorem valid_yes (r : Int) (w : World) (h : vld r = true) : Calls Tryz.prog 46 #[.int .i32 r] w fun e w' => e = .returned (.bool true) ∧ w = w' := by
  have := valid_any r w; rw [h] at this; exact this
theorem valid_not (r : Int) (w : World) (h : vld r = false) : Calls Tryz.prog 46 #[.int .i32 r] w fun e w' => e = .returned (.bool false) ∧ w = w' := by
  have := valid_any r w; rw [h] at this; exact this

/-- How many bytes a rune has. -/
def szr (r : Int) : Nat := if vld r = true then (enc r.toNat).length else 0
theorem szr_lib {r : Int} (h : vld r = true) : Lib.runeLen r = (szr r : Int) := by
  rw [vld_iff] at h
  unfold szr
  rw [if_pos (vld_iff.2 h)]
  unfold Lib.runeLen enc
  obtain ⟨n, rfl⟩ := Int.eq_ofNat_of_zero_le (show 0 ≤ r by omega)
  rw [Int.toNat_natCast, if_neg (by omega)]
  by_cases h1 : n < 128
  · rw [if_pos (by omega), if_pos h1]; rfl
  · rw [if_neg (by omega), if_neg h1]
    by_cases h2 : n < 2048
    · rw [if_pos (by omega), if_pos h2]; rfl
    · rw [if_neg (by omega), if_neg h2, if_neg (by omega)]
      by_cases h3 : n < 65536
      · rw [if_pos (by omega), if_pos h3]; rfl
      · rw [if_neg (by omega), if_neg h3, if_pos (by omega)]; rfl
theorem hex_ascii (n : Nat) : ∀ (j : Nat) (b : UInt8), (hex n)[j]? = some b → b.toNat < 128 := by
  intro j b h
  have := List.mem_of_getElem? h
  unfold hex at this
  simp only [List.mem_map] at this
  obtain ⟨d, hd, rfl⟩ := this
  exact dl_ascii (digs_lt n d hd)
theorem rep48 (c : Nat) : Lib.repeatL [48] c = List.replicate c 48 := by
  induction c with
  | zero => rfl
  | succ c ih => rw [Lib.repeatL, ih, List.replicate_succ]; rfl

end Go.Proofs.YtodjccfaipkpfaaGreatDoor.R
end

/-
  The reference of layer 2: single runes.
-/
section
namespace Go.Proofs.YtodjccfaipkpfaaGreatDoor.R
set_option linter.unusedVariables false
open Go.RowKit V

/-- A scalar value, of any number. -/
def sclI (n : Int) : Bool := decide (0 ≤ n) && scal n.toNat
theorem sclI_nat (n : Nat) : sclI (n : Int) = scal n := by simp [sclI]
theorem sclI_iff {n : Int} : sclI n = true ↔ (0 ≤ n ∧ n < 55296) ∨ (57344 ≤ n ∧ n ≤ 1114111) := by
  simp only [sclI, Bool.and_eq_true, decide_eq_true_eq, scal_iff]; omega
theorem vld_scl (r : Int) : vld r = (r != 0 && sclI r) := by
  rw [Bool.eq_iff_iff, vld_iff, Bool.and_eq_true, bne_iff_ne, sclI_iff]; omega
theorem row_cells (w : World) (l : List UInt8) (C : Array Value) (t : TypeId) (hC : C.toList = cells8 l) : Row8 (w.alloc (.cells C t)) (some ⟨w.heap.size, 0, none⟩) l := by
  by_cases hl : l = []
  · exact .inl hl
  refine .inr ⟨_, _, rfl, fun i hi => ?_⟩
  rw [Nat.zero_add, World.cell?_alloc_new w C t i, ← Array.getElem?_toList, hC]
  simp [cells8, hi]

end Go.Proofs.YtodjccfaipkpfaaGreatDoor.R
end

/-
  The reference of layer 2: the first character, and all of them.
-/
section
namespace Go.Proofs.YtodjccfaipkpfaaGreatDoor.R
set_option linter.unusedVariables false
open Go.RowKit V

theorem ba_ext {S : ByteArray} {l : List UInt8} (h : S.data.toList = l) : S = ⟨l.toArray⟩ := by
  apply ByteArray.ext
  rw [← h]
theorem idx_str (l : List UInt8) (k : Nat) (hk : k < l.length) (kd : IntKind) (w : World) :
    (Instr.index 9 (.string ⟨l.toArray⟩) (.int kd (k : Int))).run Tryz.prog w = .ok (.int .u8 (at8 l k : Int)) w := by
  have h1 : (⟨l.toArray⟩ : ByteArray)[k]? = some l[k] := by
    show (l.toArray)[k]? = _
    simp [hk]
  simp [Instr.index, run_underlying Tryz.underlying9, asIntOf, Result.andThen, h1, at8, hk]

end Go.Proofs.YtodjccfaipkpfaaGreatDoor.R
end
