/-
  The chapter's examples, as the statements check them: they hold in every world.
-/
import Derived.Test.YtjkiollopajmoaaVLawB
namespace Go.Proofs.Ytjkiollopajmoaa.V
set_option linter.unusedVariables false
open Go.RowKit

theorem num0 : num 0 = [0] := by simp [num]
theorem num127 : num 127 = [127] := by simp [num]
theorem num128 : num 128 = [128, 1] := by simp [num]
theorem num300 : num 300 = [172, 2] := by simp [num]
theorem nummax : num 18446744073709551615 = [255, 255, 255, 255, 255, 255, 255, 255, 255, 1] := by simp [num]

theorem lnum_of {n : Nat} {l : List UInt8} (hl : num n = l) (hn : n < 18446744073709551616) (x : Int) (hx : x = (n : Int)) (w : World) :
    Calls Try.prog 10 #[.int .u64 x] w fun e w' => e = .returned (.string ⟨l.toArray⟩) ∧ Below w.heap.size w w' := by
  rw [← hl]; exact lnum_any n hn x hx w

theorem row_lit (w : World) (g : Nat) (hg : g = w.heap.size) (l : List UInt8) (C : Array Value) (t : TypeId) (hC : C.toList = cells8 l) : Row8 (w.alloc (.cells C t)) (some ⟨g, 0, none⟩) l := by
  subst hg
  by_cases hl : l = []
  · exact .inl hl
  refine .inr ⟨_, _, rfl, fun i hi => ?_⟩
  rw [Nat.zero_add, World.cell?_alloc_new w C t i]
  rw [← Array.getElem?_toList, hC]
  simp [cells8, hi]

theorem new_lit (w : World) (l : List UInt8) (C : Array Value) (c g : Nat) (hg : g = w.heap.size) (hC : C.toList = cells8 l) (hl : l.length ≤ 1000) :
    Calls Try.prog 15 #[.slice (some ⟨g, 0, none⟩) l.length c] (w.alloc (.cells C 5)) fun e w' => ∃ r, e = .returned (.pointer (some ⟨r, 0, none⟩)) ∧ w.heap.size ≤ r ∧ Rd w' r ⟨l.toArray⟩ 0 ∧ Below w.heap.size w w' := by
  refine (new_any _ _ l c (by omega) (row_lit w g hg l C _ hC)).mono fun e w' ⟨he, hR, hB⟩ => ⟨_, he, by simp, hR, ?_⟩
  exact ((Below.refl _ _).alloc (Nat.le_refl _) _).trans (hB.mono (by simp))

theorem first_lit (w : World) (no : Int) (l : List UInt8) (C : Array Value) (c g : Nat) (hg : g = w.heap.size) (hC : C.toList = cells8 l) (hl : l.length ≤ 1000)
    (hr : (rn l 18446744073709551615).1 = 0 ∧ (rn l 18446744073709551615).2.1 = 0) (hn : no = ((rn l 18446744073709551615).2.2 : Int)) :
    Calls Try.prog 19 #[.int .i64 no, .slice (some ⟨g, 0, none⟩) l.length c] (w.alloc (.cells C 5)) fun e w' => e = .returned (.bool true) ∧ Below w.heap.size w w' := by
  refine (first_any _ no _ l c (by omega) (row_lit w g hg l C _ hC) hr hn).mono fun e w' ⟨he, hB⟩ => ⟨he, ?_⟩
  exact ((Below.refl _ _).alloc (Nat.le_refl _) _).trans (hB.mono (by simp))

theorem zig_of (n y : Int) (w : World) (h : -9223372036854775808 ≤ n) (h' : n ≤ 9223372036854775807) (hy : (zig n : Int) = y) :
    Calls Try.prog 14 #[.int .i64 n] w fun e w' => e = .returned (.int .u64 y) ∧ w = w' := by rw [← hy]; exact zig_any n w h h'
theorem zag_of (n : Nat) (x y : Int) (w : World) (hx : x = (n : Int)) (h : n < 18446744073709551616) (hy : zag n = y) :
    Calls Try.prog 12 #[.int .u64 x] w fun e w' => e = .returned (.int .i64 y) ∧ w = w' := by rw [← hy, hx]; exact zag_any n w h
theorem end_of (w : World) (r : Nat) (s : ByteArray) (p : Nat) (y : Int) (h : Rd w r s p) (hy : (if p = s.size then (0 : Int) else 12) = y) :
    Calls Try.prog 17 #[.pointer (some ⟨r, 0, none⟩)] w fun e w' => e = .returned (.int .i64 y) ∧ Rd w' r s p ∧ w.grownBy w' (some r) := by
  rw [← hy]
  exact (end_no w r s p h).mono fun e w' ⟨he, n, hw⟩ => by subst hw; exact ⟨he, h.drewN n, gb_drewN _ _ _⟩

set_option maxRecDepth 100000 in
set_option maxHeartbeats 4000000 in
theorem known_any (w : World) :
    Calls Try.prog 20 #[] w fun e w' => e = .returned (.bool true) ∧ Below w.heap.size w w' := by
  have hw1 := wr_new w w.heap.size 40 (Nat.le_refl _)
  have hr1 := row_lit (w.alloc (.cells #[.slice none 0 0] 40)) (w.heap.size + 1) (by simp) [97, 98] #[.int .u8 97, .int .u8 98] 5 rfl
  have HP := Lib.hid (wput_any _ w.heap.size w.heap.size _ [] _ [97, 98] 2 (hw1.keep ((Below.refl _ _).alloc (Nat.le_refl _) _)) hr1 (by simp) (by rintro b' o e -; cases e; exact ⟨by omega, by simp [Value.ownBlock]⟩) (by simp) (by simp; omega))
  clear hw1 hr1
  go_enter Try.func20, Try.ntmps20
  go_wp2_with fail
  refine HP.out.mono ?_
  rintro e w2 ⟨rfl, v2, hw2, hf2, -⟩
  have HB2 := Lib.hid (hf2.below ((((Below.refl w.heap.size w).alloc (Nat.le_refl _) (.cells #[.slice none 0 0] 40))).alloc (by simp) (.cells #[.int .u8 97, .int .u8 98] 5)) (by simp; omega) (Nat.le_refl _) (by intro k hk; cases hk))
  have hw2' : Wr w2 w.heap.size w.heap.size v2 [2, 97, 98] := by simpa [num] using hw2
  have HW2 := Lib.hid hw2'
  clear HP hw2 hf2 hw2'
  go_wp2_with fail
  refine (lnum_of num0 (by omega) _ rfl _).mono ?_
  rintro e w3 ⟨rfl, hb3⟩
  have HB3 := Lib.hid (HB2.out.trans (hb3.mono HB2.out.size))
  have HW3 := Lib.hid (HW2.out.keep hb3)
  clear HB2 hb3 HW2
  go_wp2_with fail
  refine (lnum_of num127 (by omega) _ rfl _).mono ?_
  rintro e w4 ⟨rfl, hb4⟩
  have HB4 := Lib.hid (HB3.out.trans (hb4.mono HB3.out.size))
  have HW4 := Lib.hid (HW3.out.keep hb4)
  clear HB3 hb4 HW3
  go_wp2_with fail
  refine (lnum_of num128 (by omega) _ rfl _).mono ?_
  rintro e w5 ⟨rfl, hb5⟩
  have HB5 := Lib.hid (HB4.out.trans (hb5.mono HB4.out.size))
  have HW5 := Lib.hid (HW4.out.keep hb5)
  clear HB4 hb5 HW4
  go_wp2_with fail
  refine (lnum_of num300 (by omega) _ rfl _).mono ?_
  rintro e w6 ⟨rfl, hb6⟩
  have HB6 := Lib.hid (HB5.out.trans (hb6.mono HB5.out.size))
  have HW6 := Lib.hid (HW5.out.keep hb6)
  clear HB5 hb6 HW5
  go_wp2_with fail
  refine (lnum_of nummax (by omega) _ rfl _).mono ?_
  rintro e w7 ⟨rfl, hb7⟩
  have HB7 := Lib.hid (HB6.out.trans (hb7.mono HB6.out.size))
  have HW7 := Lib.hid (HW6.out.keep hb7)
  clear HB6 hb7 HW6
  go_wp2_with fail
  refine (nines_any 1 _ rfl _).mono ?_
  rintro e w8 ⟨rfl, hrow, hb8⟩
  have hcv : (convert 23 9 (.slice (some ⟨w7.heap.size, 0, none⟩) 10 10)).run Try.prog w8 = .ok (.string ⟨#[255, 255, 255, 255, 255, 255, 255, 255, 255, 1]⟩) w8 := conv_row (P := Try.prog) hrow 10 23 9 5 Try.underlying23 Try.underlying5 Try.underlying9
  have HB8 := Lib.hid (HB7.out.trans (hb8.mono HB7.out.size))
  have HW8 := Lib.hid (HW7.out.keep hb8)
  clear HB7 hb8 HW7
  clear hrow
  go_wp2_with fail
  refine (wbytes_any _ _ _ _ _ HW8.out (by simp)).mono ?_
  rintro e w9 ⟨v3, rfl, ho3, hb9⟩
  obtain ⟨a3, c3, rfl, hrow3, -⟩ := ho3.row
  have hcv3 : (convert 23 9 (.slice a3 3 c3)).run Try.prog w9 = .ok (.string ⟨#[2, 97, 98]⟩) w9 := conv_row (P := Try.prog) hrow3 c3 23 9 5 Try.underlying23 Try.underlying5 Try.underlying9
  simp only [List.length_cons, List.length_nil] at ho3
  have HB9 := Lib.hid (HB8.out.trans (hb9.mono HB8.out.size))
  clear HB8 hb9
  clear hcv hrow3 ho3
  go_wp2_with fail
  refine (zig_of (0) 0 _ (by omega) (by omega) (by decide)).mono ?_
  rintro e w' ⟨rfl, rfl⟩
  go_wp2_with fail
  refine (zig_of (-1) 1 _ (by omega) (by omega) (by decide)).mono ?_
  rintro e w' ⟨rfl, rfl⟩
  go_wp2_with fail
  refine (zig_of (1) 2 _ (by omega) (by omega) (by decide)).mono ?_
  rintro e w' ⟨rfl, rfl⟩
  go_wp2_with fail
  refine (zig_of (-9223372036854775808) 18446744073709551615 _ (by omega) (by omega) (by decide)).mono ?_
  rintro e w' ⟨rfl, rfl⟩
  go_wp2_with fail
  refine (zag_of 4 4 2 _ rfl (by omega) (by decide)).mono ?_
  rintro e w' ⟨rfl, rfl⟩
  go_wp2_with fail
  refine (zag_of 5 5 (-3) _ rfl (by omega) (by decide)).mono ?_
  rintro e w' ⟨rfl, rfl⟩
  go_wp2_with fail
  refine (new_lit _ [172, 2, 5] #[.int .u8 172, .int .u8 2, .int .u8 5] _ _ rfl rfl (by simp)).mono ?_
  rintro e w10 ⟨rr, rfl, hler, hRr, hb10⟩
  have hlor : w.heap.size ≤ rr := Nat.le_trans HB9.out.size hler
  have HB10 := Lib.hid (HB9.out.trans (hb10.mono HB9.out.size))
  clear HB9 hb10
  have HRr10 := Lib.hid hRr
  clear hRr hler
  go_wp2_with fail
  refine (new_lit _ [5] #[.int .u8 5] _ _ rfl rfl (by simp)).mono ?_
  rintro e w11 ⟨rs, rfl, hles, hRs, hb11⟩
  have hners : rr ≠ rs := Nat.ne_of_lt (Nat.lt_of_lt_of_le HRr10.out.lt hles)
  have hlos : w.heap.size ≤ rs := Nat.le_trans HB10.out.size hles
  have HB11 := Lib.hid (HB10.out.trans (hb11.mono HB10.out.size))
  have HRr11 := Lib.hid (HRr10.out.keep hb11)
  clear HB10 hb11 HRr10
  have HRs11 := Lib.hid hRs
  clear hRs hles
  go_wp2_with fail
  refine (reads_no _ rr _ 0 1000 _ _ _ HRr11.out rfl rfl rfl).mono ?_
  rintro e w12 ⟨rfl, hR, hG⟩
  have hR' : Rd w12 rr ⟨#[172, 2, 5]⟩ 2 := hR
  have HB12 := Lib.hid (below_gb HB11.out hG HB11.out.size hlor)
  have HRs12 := Lib.hid (HRs11.out.gb hG (by omega))
  have HRr12 := Lib.hid hR'
  clear hR hR' hG HB11 HRs11 HRr11
  go_wp2_with fail
  refine (at_no _ rr _ 2 HRr12.out).mono ?_
  rintro e w' ⟨rfl, rfl⟩
  go_wp2_with fail
  refine (reads_no _ rr _ 2 4 _ _ _ HRr12.out rfl rfl rfl).mono ?_
  rintro e w13 ⟨rfl, hR, hG⟩
  have hR' : Rd w13 rr ⟨#[172, 2, 5]⟩ 2 := hR
  have HB13 := Lib.hid (below_gb HB12.out hG HB12.out.size hlor)
  have HRs13 := Lib.hid (HRs12.out.gb hG (by omega))
  have HRr13 := Lib.hid hR'
  clear hR hR' hG HB12 HRs12 HRr12
  go_wp2_with fail
  refine (reads_no _ rr _ 2 5 _ _ _ HRr13.out rfl rfl rfl).mono ?_
  rintro e w14 ⟨rfl, hR, hG⟩
  have hR' : Rd w14 rr ⟨#[172, 2, 5]⟩ 3 := hR
  have HB14 := Lib.hid (below_gb HB13.out hG HB13.out.size hlor)
  have HRs14 := Lib.hid (HRs13.out.gb hG (by omega))
  have HRr14 := Lib.hid hR'
  clear hR hR' hG HB13 HRs13 HRr13
  go_wp2_with fail
  refine (end_of _ rr _ 3 0 HRr14.out (by decide)).mono ?_
  rintro e w15 ⟨rfl, hR, hG⟩
  have hR' : Rd w15 rr ⟨#[172, 2, 5]⟩ 3 := hR
  have HB15 := Lib.hid (below_gb HB14.out hG HB14.out.size hlor)
  have HRs15 := Lib.hid (HRs14.out.gb hG (by omega))
  have HRr15 := Lib.hid hR'
  clear hR hR' hG HB14 HRs14 HRr14
  go_wp2_with fail
  refine (signed_no _ rs _ 0 _ _ HRs15.out (by decide) rfl).mono ?_
  rintro e w16 ⟨rfl, hR, hG⟩
  have hR' : Rd w16 rs ⟨#[5]⟩ 1 := hR
  have HB16 := Lib.hid (below_gb HB15.out hG HB15.out.size hlos)
  have HRr16 := Lib.hid (HRr15.out.gb hG (by omega))
  have HRs16 := Lib.hid hR'
  clear hR hR' hG HB15 HRr15 HRs15
  clear HRr16 HRs16 hners
  go_wp2_with fail
  refine (first_lit _ 4 [128] #[.int .u8 128] _ _ rfl rfl (by simp) ⟨rfl, rfl⟩ rfl).mono ?_
  rintro e w17 ⟨rfl, hb17⟩
  have HB17 := Lib.hid (HB16.out.trans (hb17.mono HB16.out.size))
  clear HB16 hb17
  go_wp2_with fail
  refine (first_lit _ 12 [128, 0] #[.int .u8 128, .int .u8 0] _ _ rfl rfl (by simp) ⟨rfl, rfl⟩ rfl).mono ?_
  rintro e w18 ⟨rfl, hb18⟩
  have HB18 := Lib.hid (HB17.out.trans (hb18.mono HB17.out.size))
  clear HB17 hb18
  go_wp2_with fail
  refine (nines_any 255 _ rfl _).mono ?_
  rintro e w19 ⟨rfl, hrow, hb19⟩
  have HB19 := Lib.hid (HB18.out.trans (hb19.mono HB18.out.size))
  clear HB18 hb19
  go_wp2_with fail
  refine (first_any _ 12 _ [255, 255, 255, 255, 255, 255, 255, 255, 255, 255] 10 (by simp) hrow ⟨rfl, rfl⟩ rfl).mono ?_
  rintro e w20 ⟨rfl, hb20⟩
  clear hrow
  have HB20 := Lib.hid (HB19.out.trans (hb20.mono HB19.out.size))
  clear HB19 hb20
  go_wp2_with fail
  refine (nines_any 2 _ rfl _).mono ?_
  rintro e w21 ⟨rfl, hrow, hb21⟩
  have HB21 := Lib.hid (HB20.out.trans (hb21.mono HB20.out.size))
  clear HB20 hb21
  go_wp2_with fail
  refine (first_any _ 12 _ [255, 255, 255, 255, 255, 255, 255, 255, 255, 2] 10 (by simp) hrow ⟨rfl, rfl⟩ rfl).mono ?_
  rintro e w22 ⟨rfl, hb22⟩
  clear hrow
  have HB22 := Lib.hid (HB21.out.trans (hb22.mono HB21.out.size))
  clear HB21 hb22
  go_wp2_with fail
  refine (first_any _ 4 none [] 0 (by simp) (.inl rfl) ⟨rfl, rfl⟩ rfl).mono ?_
  rintro e w23 ⟨rfl, hb23⟩
  have HB23 := Lib.hid (HB22.out.trans (hb23.mono HB22.out.size))
  clear HB22 hb23
  go_wp2_with fail
  refine (new_lit _ [2, 97, 98] #[.int .u8 2, .int .u8 97, .int .u8 98] _ _ rfl rfl (by simp)).mono ?_
  rintro e w24 ⟨rx, rfl, hlex, hRx, hb24⟩
  have hlox : w.heap.size ≤ rx := Nat.le_trans HB23.out.size hlex
  have HB24 := Lib.hid (HB23.out.trans (hb24.mono HB23.out.size))
  clear HB23 hb24
  have HRx24 := Lib.hid hRx
  clear hRx hlex
  go_wp2_with fail
  refine (new_lit _ [2, 97, 98] #[.int .u8 2, .int .u8 97, .int .u8 98] _ _ rfl rfl (by simp)).mono ?_
  rintro e w25 ⟨ry, rfl, hley, hRy, hb25⟩
  have hnexy : rx ≠ ry := Nat.ne_of_lt (Nat.lt_of_lt_of_le HRx24.out.lt hley)
  have hloy : w.heap.size ≤ ry := Nat.le_trans HB24.out.size hley
  have HB25 := Lib.hid (HB24.out.trans (hb25.mono HB24.out.size))
  have HRx25 := Lib.hid (HRx24.out.keep hb25)
  clear HB24 hb25 HRx24
  have HRy25 := Lib.hid hRy
  clear hRy hley
  go_wp2_with fail
  refine (new_lit _ [2, 97] #[.int .u8 2, .int .u8 97] _ _ rfl rfl (by simp)).mono ?_
  rintro e w26 ⟨rz, rfl, hlez, hRz, hb26⟩
  have hnexz : rx ≠ rz := Nat.ne_of_lt (Nat.lt_of_lt_of_le HRx25.out.lt hlez)
  have hneyz : ry ≠ rz := Nat.ne_of_lt (Nat.lt_of_lt_of_le HRy25.out.lt hlez)
  have hloz : w.heap.size ≤ rz := Nat.le_trans HB25.out.size hlez
  have HB26 := Lib.hid (HB25.out.trans (hb26.mono HB25.out.size))
  have HRx26 := Lib.hid (HRx25.out.keep hb26)
  have HRy26 := Lib.hid (HRy25.out.keep hb26)
  clear HB25 hb26 HRx25 HRy25
  have HRz26 := Lib.hid hRz
  clear hRz hlez
  go_wp2_with fail
  refine (new_lit _ [7, 8] #[.int .u8 7, .int .u8 8] _ _ rfl rfl (by simp)).mono ?_
  rintro e w27 ⟨rt, rfl, hlet, hRt, hb27⟩
  have hnext : rx ≠ rt := Nat.ne_of_lt (Nat.lt_of_lt_of_le HRx26.out.lt hlet)
  have hneyt : ry ≠ rt := Nat.ne_of_lt (Nat.lt_of_lt_of_le HRy26.out.lt hlet)
  have hnezt : rz ≠ rt := Nat.ne_of_lt (Nat.lt_of_lt_of_le HRz26.out.lt hlet)
  have hlot : w.heap.size ≤ rt := Nat.le_trans HB26.out.size hlet
  have HB27 := Lib.hid (HB26.out.trans (hb27.mono HB26.out.size))
  have HRx27 := Lib.hid (HRx26.out.keep hb27)
  have HRy27 := Lib.hid (HRy26.out.keep hb27)
  have HRz27 := Lib.hid (HRz26.out.keep hb27)
  clear HB26 hb27 HRx26 HRy26 HRz26
  have HRt27 := Lib.hid hRt
  clear hRt hlet
  go_wp2_with fail
  refine (hears_no _ rx _ 0 5 _ _ (by omega) (by omega) HRx27.out rfl rfl).mono ?_
  rintro e w28 ⟨rfl, hR, hG⟩
  have hR' : Rd w28 rx ⟨#[2, 97, 98]⟩ 3 := hR
  have HB28 := Lib.hid (below_gb HB27.out hG HB27.out.size hlox)
  have HRy28 := Lib.hid (HRy27.out.gb hG (by omega))
  have HRz28 := Lib.hid (HRz27.out.gb hG (by omega))
  have HRt28 := Lib.hid (HRt27.out.gb hG (by omega))
  have HRx28 := Lib.hid hR'
  clear hR hR' hG HB27 HRy27 HRz27 HRt27 HRx27
  go_wp2_with fail
  refine (hears_no _ ry _ 0 1 _ _ (by omega) (by omega) HRy28.out rfl rfl).mono ?_
  rintro e w29 ⟨rfl, hR, hG⟩
  have hR' : Rd w29 ry ⟨#[2, 97, 98]⟩ 0 := hR
  have HB29 := Lib.hid (below_gb HB28.out hG HB28.out.size hloy)
  have HRx29 := Lib.hid (HRx28.out.gb hG (by omega))
  have HRz29 := Lib.hid (HRz28.out.gb hG (by omega))
  have HRt29 := Lib.hid (HRt28.out.gb hG (by omega))
  have HRy29 := Lib.hid hR'
  clear hR hR' hG HB28 HRx28 HRz28 HRt28 HRy28
  go_wp2_with fail
  refine (hears_no _ rz _ 0 5 _ _ (by omega) (by omega) HRz29.out rfl rfl).mono ?_
  rintro e w30 ⟨rfl, hR, hG⟩
  have hR' : Rd w30 rz ⟨#[2, 97]⟩ 0 := hR
  have HB30 := Lib.hid (below_gb HB29.out hG HB29.out.size hloz)
  have HRx30 := Lib.hid (HRx29.out.gb hG (by omega))
  have HRy30 := Lib.hid (HRy29.out.gb hG (by omega))
  have HRt30 := Lib.hid (HRt29.out.gb hG (by omega))
  have HRz30 := Lib.hid hR'
  clear hR hR' hG HB29 HRx29 HRy29 HRt29 HRz29
  go_wp2_with fail
  refine (takes_no _ rt _ 0 1 _ _ HRt30.out rfl rfl).mono ?_
  rintro e w31 ⟨rfl, hR, hG⟩
  have hR' : Rd w31 rt ⟨#[7, 8]⟩ 1 := hR
  have HB31 := Lib.hid (below_gb HB30.out hG HB30.out.size hlot)
  have HRx31 := Lib.hid (HRx30.out.gb hG (by omega))
  have HRy31 := Lib.hid (HRy30.out.gb hG (by omega))
  have HRz31 := Lib.hid (HRz30.out.gb hG (by omega))
  have HRt31 := Lib.hid hR'
  clear hR hR' hG HB30 HRx30 HRy30 HRz30 HRt30
  go_wp2_with fail
  refine (end_of _ rt _ 1 12 HRt31.out (by decide)).mono ?_
  rintro e w32 ⟨rfl, hR, hG⟩
  have hR' : Rd w32 rt ⟨#[7, 8]⟩ 1 := hR
  have HB32 := Lib.hid (below_gb HB31.out hG HB31.out.size hlot)
  have HRx32 := Lib.hid (HRx31.out.gb hG (by omega))
  have HRy32 := Lib.hid (HRy31.out.gb hG (by omega))
  have HRz32 := Lib.hid (HRz31.out.gb hG (by omega))
  have HRt32 := Lib.hid hR'
  clear hR hR' hG HB31 HRx31 HRy31 HRz31 HRt31
  go_wp2_with fail
  go_ret
  exact ⟨rfl, HB32.out⟩

end Go.Proofs.Ytjkiollopajmoaa.V
