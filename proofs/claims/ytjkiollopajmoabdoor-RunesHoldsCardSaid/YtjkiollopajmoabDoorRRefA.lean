/-
  The reference of layer 2: single runes.
-/
import Derived.Test.YtjkiollopajmoabDoorRCut
import Derived.Test.YtjkiollopajmoabDoorRRefP
namespace Go.Proofs.YtjkiollopajmoabDoor.R
set_option linter.unusedVariables false
open Go.RowKit V

/-- A scalar value, of any number. -/
def sclI (n : Int) : Bool := decide (0 ≤ n) && scal n.toNat
theorem sclI_nat (n : Nat) : sclI (n : Int) = scal n := by simp [sclI]
theorem sclI_iff {n : Int} : sclI n = true ↔ (0 ≤ n ∧ n < 55296) ∨ (57344 ≤ n ∧ n ≤ 1114111) := by
  simp only [sclI, Bool.and_eq_true, decide_eq_true_eq, scal_iff]; omega
set_option maxHeartbeats 400000 in
theorem scalar_any (n : Int) (w : World) : Calls Tryd.prog 31 #[.int .i64 n] w fun e w' => e = .returned (.bool (sclI n)) ∧ w = w' := by
  by_cases h0 : 0 ≤ n
  · have b0 : decide (0 ≤ n) = true := by simpa using h0
    by_cases h1 : n ≤ 1114111
    · have b1 : decide (n ≤ 1114111) = true := by simpa using h1
      by_cases h2 : n < 55296
      · have b2 : decide (n < 55296) = true := by simpa using h2
        have HN : Hid (sclI n = true) := sclI_iff.2 (by omega)
        go_enter Tryd.func31, Tryd.ntmps31
        go_wp2_with fail
        go_ret
        exact ⟨by rw [HN.out]; rfl, rfl⟩
      · have b2 : decide (n < 55296) = false := by simpa using h2
        by_cases h3 : 57343 < n
        · have b3 : decide (57343 < n) = true := by simpa using h3
          have HN : Hid (sclI n = true) := sclI_iff.2 (by omega)
          go_enter Tryd.func31, Tryd.ntmps31
          go_wp2_with fail
          go_ret
          exact ⟨by rw [HN.out]; rfl, rfl⟩
        · have b3 : decide (57343 < n) = false := by simpa using h3
          have HN : Hid (sclI n = false) := by show _ = _; rw [Bool.eq_false_iff]; intro h; rw [sclI_iff] at h; omega
          go_enter Tryd.func31, Tryd.ntmps31
          go_wp2_with fail
          go_ret
          exact ⟨by rw [HN.out]; rfl, rfl⟩
    · have b1 : decide (n ≤ 1114111) = false := by simpa using h1
      have HN : Hid (sclI n = false) := by show _ = _; rw [Bool.eq_false_iff]; intro h; rw [sclI_iff] at h; omega
      go_enter Tryd.func31, Tryd.ntmps31
      go_wp2_with fail
      go_ret
      exact ⟨by rw [HN.out]; rfl, rfl⟩
  · have b0 : decide (0 ≤ n) = false := by simpa using h0
    have HN : Hid (sclI n = false) := by show _ = _; rw [Bool.eq_false_iff]; intro h; rw [sclI_iff] at h; omega
    go_enter Tryd.func31, Tryd.ntmps31
    go_wp2_with fail
    go_ret
    exact ⟨by rw [HN.out]; rfl, rfl⟩

theorem vld_scl (r : Int) : vld r = (r != 0 && sclI r) := by
  rw [Bool.eq_iff_iff, vld_iff, Bool.and_eq_true, bne_iff_ne, sclI_iff]; omega
set_option maxHeartbeats 400000 in
theorem rvalid_any (r : Int) (w : World) (hr : -2147483648 ≤ r ∧ r ≤ 2147483647) : Calls Tryd.prog 10 #[.int .i32 r] w fun e w' => e = .returned (.bool (vld r)) ∧ w = w' := by
  have HV := Lib.hid (vld_scl r)
  by_cases h : r = 0
  · subst h
    go_enter Tryd.func10, Tryd.ntmps10
    go_wp2_with fail
    go_ret
    exact ⟨rfl, rfl⟩
  · have h1 : (r != 0) = true := by rw [bne_iff_ne]; exact h
    have hb : sclI r = vld r := by rw [HV.out, h1, Bool.true_and]
    have HC := Lib.hid (scalar_any r w)
    rw [hb] at HC
    obtain ⟨hr1, hr2⟩ := hr
    clear hb
    go_enter Tryd.func10, Tryd.ntmps10
    go_wp2_with (go_at_call 31; refine HC.out.mono ?_; rintro e w' ⟨rfl, rfl⟩)
    go_ret
    exact ⟨rfl, rfl⟩
theorem rvalid_yes (r : Int) (w : World) (h : vld r = true) : Calls Tryd.prog 10 #[.int .i32 r] w fun e w' => e = .returned (.bool true) ∧ w = w' := by
  have := rvalid_any r w (by rw [vld_iff] at h; omega); rw [h] at this; exact this
theorem rvalid_not (r : Int) (w : World) (hr : -2147483648 ≤ r ∧ r ≤ 2147483647) (h : vld r = false) : Calls Tryd.prog 10 #[.int .i32 r] w fun e w' => e = .returned (.bool false) ∧ w = w' := by
  have := rvalid_any r w hr; rw [h] at this; exact this

theorem row_cells (w : World) (l : List UInt8) (C : Array Value) (t : TypeId) (hC : C.toList = cells8 l) : Row8 (w.alloc (.cells C t)) (some ⟨w.heap.size, 0, none⟩) l := by
  by_cases hl : l = []
  · exact .inl hl
  refine .inr ⟨_, _, rfl, fun i hi => ?_⟩
  rw [Nat.zero_add, World.cell?_alloc_new w C t i, ← Array.getElem?_toList, hC]
  simp [cells8, hi]

set_option maxRecDepth 100000 in
set_option maxHeartbeats 400000 in
theorem rbytes_any (n : Nat) (hn : n ≤ 1114111) (w : World) :
    Calls Tryd.prog 16 #[.int .i64 (n : Int)] w fun e w' => ∃ g c, e = .returned (.slice (some ⟨g, 0, none⟩) (enc n).length c) ∧ Row8 w' (some ⟨g, 0, none⟩) (enc n) ∧ Below w.heap.size w w' ∧ w.heap.size ≤ g := by
  by_cases h1 : n < 128
  · have HE : Hid (enc n = [u n]) := by show _ = _; unfold enc; rw [if_pos h1]
    go_enter Tryd.func16, Tryd.ntmps16
    go_wp2_with fail
    go_ret
    rw [HE.out]
    refine ⟨_, _, rfl, row_cells _ _ _ _ ?_, (Below.refl _ _).alloc (Nat.le_refl _) _, Nat.le_refl _⟩
    simp only [cells8, List.map_cons, List.map_nil, u_toNat (show n < 256 by omega)]
  · by_cases h2 : n < 2048
    · have HE : Hid (enc n = [u (192 + n / 64), u (128 + n % 64)]) := by show _ = _; unfold enc; rw [if_neg h1, if_pos h2]
      go_enter Tryd.func16, Tryd.ntmps16
      go_wp2_with fail
      go_ret
      rw [HE.out]
      refine ⟨_, _, rfl, row_cells _ _ _ _ ?_, (Below.refl _ _).alloc (Nat.le_refl _) _, Nat.le_refl _⟩
      simp only [cells8, List.map_cons, List.map_nil, u_toNat (show 192 + n / 64 < 256 by omega), u_toNat (show 128 + n % 64 < 256 by omega)]
      simp
    · by_cases h3 : n < 65536
      · have b3 : decide ((n : Int) < 65536) = true := by simp; omega
        have HE : Hid (enc n = [u (224 + n / 4096), u (128 + n / 64 % 64), u (128 + n % 64)]) := by show _ = _; unfold enc; rw [if_neg h1, if_neg h2, if_pos h3]
        have b1 : decide ((n : Int) < 128) = false := by simp; omega
        have b2 : decide ((n : Int) < 2048) = false := by simp; omega
        have H1 := Lib.hid h1
        have H2 := Lib.hid h2
        have H3 := Lib.hid h3
        clear h1 h2 h3
        go_enter Tryd.func16, Tryd.ntmps16
        go_wp2_with fail
        go_ret
        rw [HE.out]
        refine ⟨_, _, rfl, row_cells _ _ _ _ ?_, (Below.refl _ _).alloc (Nat.le_refl _) _, Nat.le_refl _⟩
        simp only [cells8, List.map_cons, List.map_nil, u_toNat (show 224 + n / 4096 < 256 by have := H3.out; omega), u_toNat (show 128 + n / 64 % 64 < 256 by omega), u_toNat (show 128 + n % 64 < 256 by omega)]
        simp
        have := H3.out
        omega
      · have b3 : decide ((n : Int) < 65536) = false := by simp; omega
        have HE : Hid (enc n = [u (240 + n / 262144), u (128 + n / 4096 % 64), u (128 + n / 64 % 64), u (128 + n % 64)]) := by show _ = _; unfold enc; rw [if_neg h1, if_neg h2, if_neg h3]
        have b1 : decide ((n : Int) < 128) = false := by simp; omega
        have b2 : decide ((n : Int) < 2048) = false := by simp; omega
        have H1 := Lib.hid h1
        have H2 := Lib.hid h2
        have H3 := Lib.hid h3
        clear h1 h2 h3
        go_enter Tryd.func16, Tryd.ntmps16
        go_wp2_with fail
        go_ret
        rw [HE.out]
        refine ⟨_, _, rfl, row_cells _ _ _ _ ?_, (Below.refl _ _).alloc (Nat.le_refl _) _, Nat.le_refl _⟩
        simp only [cells8, List.map_cons, List.map_nil, u_toNat (show 240 + n / 262144 < 256 by omega), u_toNat (show 128 + n / 4096 % 64 < 256 by omega), u_toNat (show 128 + n / 64 % 64 < 256 by omega), u_toNat (show 128 + n % 64 < 256 by omega)]
        simp

set_option maxHeartbeats 400000 in
theorem rsize_any (r : Int) (w : World) (hr : -2147483648 ≤ r ∧ r ≤ 2147483647) : Calls Tryd.prog 12 #[.int .i32 r] w fun e w' => e = .returned (.int .i64 (szr r)) ∧ Below w.heap.size w w' := by
  by_cases h : vld r = true
  · have hv := vld_iff.1 h
    obtain ⟨n, rfl⟩ := Int.eq_ofNat_of_zero_le (show 0 ≤ r by omega)
    have hs : szr (n : Int) = (enc n).length := by unfold szr; rw [if_pos h, Int.toNat_natCast]
    have HS := Lib.hid hs
    have hn : n ≤ 1114111 := by omega
    have HV := Lib.hid (rvalid_yes n w h)
    have HB := Lib.hid (rbytes_any n hn w)
    have h4 := (enc_len n).2
    obtain ⟨hr1, hr2⟩ := hr
    clear h hv hs
    go_enter Tryd.func12, Tryd.ntmps12
    go_wp2_with (first | (go_at_call 10; refine HV.out.mono ?_; rintro e w' ⟨rfl, rfl⟩) | (go_at_call 16; refine HB.out.mono ?_; rintro e w' ⟨g, c, rfl, hrow, hb, hg⟩))
    go_ret
    exact ⟨by rw [HS.out]; rfl, by assumption⟩
  · have h' : vld r = false := by simpa using h
    have h0 : szr r = 0 := by unfold szr; rw [if_neg h]
    have HV := Lib.hid (rvalid_not r w hr h')
    have H0 := Lib.hid h0
    clear h h' h0
    go_enter Tryd.func12, Tryd.ntmps12
    go_wp2_with (go_at_call 10; refine HV.out.mono ?_; rintro e w' ⟨rfl, rfl⟩)
    go_ret
    exact ⟨by rw [H0.out]; rfl, Below.refl _ _⟩

set_option maxRecDepth 100000 in
set_option maxHeartbeats 400000 in
theorem lead_any (c : UInt8) (w : World) : Calls Tryd.prog 43 #[.int .u8 (c.toNat : Int)] w fun e w' => e = .returned (.tuple #[.int .i64 ((leadR c.toNat).1 : Int), .int .i64 ((leadR c.toNat).2 : Int)]) ∧ w = w' := by
  have hc := c.toNat_lt
  generalize c.toNat = n at *
  by_cases h1 : n < 128
  · have HN : Hid (leadR n = (1, n)) := by show _ = _; unfold leadR; rw [if_pos h1]
    go_enter Tryd.func43, Tryd.ntmps43
    go_wp2_with fail
    go_ret2
    exact ⟨by rw [HN.out]; rfl, rfl⟩
  · have b1 : decide ((n : Int) < 128) = false := by simp; omega
    by_cases h2 : n < 192
    · have hlt : (n : Int) < 192 := by omega
      have HN : Hid (leadR n = (0, 0)) := by show _ = _; unfold leadR; rw [if_neg h1, if_neg (by omega), if_neg (by omega), if_neg (by omega)]
      clear h1 h2
      go_enter Tryd.func43, Tryd.ntmps43
      go_wp2_with fail
      go_ret2
      exact ⟨by rw [HN.out]; rfl, rfl⟩
    · have b2 : decide ((192 : Int) ≤ (n : Int)) = true := by simp; omega
      by_cases h3 : n < 224
      · have b3 : decide ((n : Int) < 224) = true := by simp; omega
        have hge : (192 : Int) ≤ (n : Int) := by omega
        have e : ((n - 192 : Nat) : Int) = (n : Int) - 192 := by omega
        have HN : Hid (leadR n = (2, n - 192)) := by show _ = _; unfold leadR; rw [if_neg h1, if_pos (by omega)]
        have HE := Lib.hid e
        clear h1 h2 h3 e
        go_enter Tryd.func43, Tryd.ntmps43
        go_wp2_with fail
        go_ret2
        exact ⟨by rw [HN.out]; exact G.ret2 rfl (by rw [HE.out]; rfl), rfl⟩
      · have b3 : decide ((n : Int) < 224) = false := by simp; omega
        have b4 : decide ((224 : Int) ≤ (n : Int)) = true := by simp; omega
        by_cases h4 : n < 240
        · have b5 : decide ((n : Int) < 240) = true := by simp; omega
          have hge : (224 : Int) ≤ (n : Int) := by omega
          have e : ((n - 224 : Nat) : Int) = (n : Int) - 224 := by omega
          have HN : Hid (leadR n = (3, n - 224)) := by show _ = _; unfold leadR; rw [if_neg h1, if_neg (by omega), if_pos (by omega)]
          have HE := Lib.hid e
          clear h1 h2 h3 h4 e
          go_enter Tryd.func43, Tryd.ntmps43
          go_wp2_with fail
          go_ret2
          exact ⟨by rw [HN.out]; exact G.ret2 rfl (by rw [HE.out]; rfl), rfl⟩
        · have b5 : decide ((n : Int) < 240) = false := by simp; omega
          have b6 : decide ((240 : Int) ≤ (n : Int)) = true := by simp; omega
          by_cases h5 : n < 248
          · have b7 : decide ((n : Int) < 248) = true := by simp; omega
            have hge : (240 : Int) ≤ (n : Int) := by omega
            have e : ((n - 240 : Nat) : Int) = (n : Int) - 240 := by omega
            have HN : Hid (leadR n = (4, n - 240)) := by show _ = _; unfold leadR; rw [if_neg h1, if_neg (by omega), if_neg (by omega), if_pos (by omega)]
            have HE := Lib.hid e
            clear h1 h2 h3 h4 h5 e
            go_enter Tryd.func43, Tryd.ntmps43
            go_wp2_with fail
            go_ret2
            exact ⟨by rw [HN.out]; exact G.ret2 rfl (by rw [HE.out]; rfl), rfl⟩
          · have b7 : decide ((n : Int) < 248) = false := by simp; omega
            have HN : Hid (leadR n = (0, 0)) := by show _ = _; unfold leadR; rw [if_neg h1, if_neg (by omega), if_neg (by omega), if_neg (by omega)]
            clear h1 h2 h3 h4 h5
            go_enter Tryd.func43, Tryd.ntmps43
            go_wp2_with fail
            go_ret2
            exact ⟨by rw [HN.out]; rfl, rfl⟩
end Go.Proofs.YtjkiollopajmoabDoor.R
