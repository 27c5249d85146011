/-
  The reference of layer 2: single runes.
-/
import Derived.Test.YtmmcnpcijeahcabGreatDoorRName
import Derived.Test.YtmmcnpcijeahcabGreatDoorRRefP
namespace Go.Proofs.YtmmcnpcijeahcabGreatDoor.R
set_option linter.unusedVariables false
open Go.RowKit V

/-- A scalar value, of any number. -/
def sclI (n : Int) : Bool := decide (0 ≤ n) && scal n.toNat
theorem sclI_nat (n : Nat) : sclI (n : Int) = scal n := by simp [sclI]
theorem sclI_iff {n : Int} : sclI n = true ↔ (0 ≤ n ∧ n < 55296) ∨ (57344 ≤ n ∧ n ≤ 1114111) := by
  simp only [sclI, Bool.and_eq_true, decide_eq_true_eq, scal_iff]; omega
set_option maxHeartbeats 400000 in
theorem scalar_any (n : Int) (w : World) : Calls Tryz.prog 51 #[.int .i64 n] w fun e w' => e = .returned (.bool (sclI n)) ∧ w = w' := by
  by_cases h0 : 0 ≤ n
  · have b0 : decide (0 ≤ n) = true := by simpa using h0
    by_cases h1 : n ≤ 1114111
    · have b1 : decide (n ≤ 1114111) = true := by simpa using h1
      by_cases h2 : n < 55296
      · have b2 : decide (n < 55296) = true := by simpa using h2
        have HN : Hid (sclI n = true) := sclI_iff.2 (by omega)
        go_enter Tryz.func51, Tryz.ntmps51
        go_wp2_with fail
        go_ret
        exact ⟨by rw [HN.out]; rfl, rfl⟩
      · have b2 : decide (n < 55296) = false := by simpa using h2
        by_cases h3 : 57343 < n
        · have b3 : decide (57343 < n) = true := by simpa using h3
          have HN : Hid (sclI n = true) := sclI_iff.2 (by omega)
          go_enter Tryz.func51, Tryz.ntmps51
          go_wp2_with fail
          go_ret
          exact ⟨by rw [HN.out]; rfl, rfl⟩
        · have b3 : decide (57343 < n) = false := by simpa using h3
          have HN : Hid (sclI n = false) := by show _ = _; rw [Bool.eq_false_iff]; intro h; rw [sclI_iff] at h; omega
          go_enter Tryz.func51, Tryz.ntmps51
          go_wp2_with fail
          go_ret
          exact ⟨by rw [HN.out]; rfl, rfl⟩
    · have b1 : decide (n ≤ 1114111) = false := by simpa using h1
      have HN : Hid (sclI n = false) := by show _ = _; rw [Bool.eq_false_iff]; intro h; rw [sclI_iff] at h; omega
      go_enter Tryz.func51, Tryz.ntmps51
      go_wp2_with fail
      go_ret
      exact ⟨by rw [HN.out]; rfl, rfl⟩
  · have b0 : decide (0 ≤ n) = false := by simpa using h0
    have HN : Hid (sclI n = false) := by show _ = _; rw [Bool.eq_false_iff]; intro h; rw [sclI_iff] at h; omega
    go_enter Tryz.func51, Tryz.ntmps51
    go_wp2_with fail
    go_ret
    exact ⟨by rw [HN.out]; rfl, rfl⟩

theorem vld_scl (r : Int) : vld r = (r != 0 && sclI r) := by
  rw [Bool.eq_iff_iff, vld_iff, Bool.and_eq_true, bne_iff_ne, sclI_iff]; omega
set_option maxHeartbeats 400000 in
theorem rvalid_any (r : Int) (w : World) (hr : -2147483648 ≤ r ∧ r ≤ 2147483647) : Calls Tryz.prog 29 #[.int .i32 r] w fun e w' => e = .returned (.bool (vld r)) ∧ w = w' := by
  have HV := Lib.hid (vld_scl r)
  by_cases h : r = 0
  · subst h
    go_enter Tryz.func29, Tryz.ntmps29
    go_wp2_with fail
    go_ret
    exact ⟨rfl, rfl⟩
  · have h1 : (r != 0) = true := by rw [bne_iff_ne]; exact h
    have hb : sclI r = vld r := by rw [HV.out, h1, Bool.true_and]
    have HC := Lib.hid (scalar_any r w)
    rw [hb] at HC
    obtain ⟨hr1, hr2⟩ := hr
    clear hb
    go_enter Tryz.func29, Tryz.ntmps29
    go_wp2_with (go_at_call 51; refine HC.out.mono ?_; rintro e w' ⟨rfl, rfl⟩)
    go_ret
    exact ⟨rfl, rfl⟩
theorem rvalid_yes (r : Int) (w : World) (h : vld r = true) : Calls Tryz.prog 29 #[.int .i32 r] w fun e w' => e = .returned (.bool true) ∧ w = w' := by
  have := rvalid_any r w (by rw [vld_iff] at h; omega); rw [h] at this; exact this
theorem rvalid_not (r : Int) (w : World) (hr : -2147483648 ≤ r ∧ r ≤ 2147483647) (h : vld r = false) : Calls Tryz.prog 29 #[.int .i32 r] w fun e w' => e = .returned (.bool false) ∧ w = w' := by
  have := rvalid_any r w hr; rw [h] at this; exact this

theorem row_cells (w : World) (l : List UInt8) (C : Array Value) (t : TypeId) (hC : C.toList = cells8 l) : Row8 (w.alloc (.cells C t)) (some ⟨w.heap.size, 0, none⟩) l := by
  by_cases hl : l = []
  · exact .inl hl
  refine .inr ⟨_, _, rfl, fun i hi => ?_⟩
  rw [Nat.zero_add, World.cell?_alloc_new w C t i, ← Array.getElem?_toList, hC]
  simp [cells8, hi]

end Go.Proofs.YtmmcnpcijeahcabGreatDoor.R
