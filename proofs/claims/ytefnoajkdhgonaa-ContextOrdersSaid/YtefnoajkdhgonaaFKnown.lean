/-
  The examples of the chapter.
-/
import Derived.Test.YtefnoajkdhgonaaFLaws
import Derived.Test.YtefnoajkdhgonaaSchR
import Derived.Deep.CutRange
namespace Go.Proofs.Ytefnoajkdhgonaa.F
set_option linter.unusedVariables false
open Go.RowKit V Go.Sort D
open E (SV SV.nil SV.keep SV.of_od)

/-- Where two lists and what is made of them lie: a list, and a context. -/
structure Ph where
  p : Nat
  g : Nat
  n : Nat
  q : Nat
  a2 : Option Addr
  n2 : Nat
  b2 : Option Addr
  m2 : Nat
/-- Two contexts. -/
structure Ph2 where
  p : Nat
  a1 : Option Addr
  n1 : Nat
  b1 : Option Addr
  m1 : Nat
  q : Nat
  a2 : Option Addr
  n2 : Nat
  b2 : Option Addr
  m2 : Nat

theorem same_true (l : List Dt) (a b : Option Addr) (c d : Nat) (w : World) (hx : RowD w a l) (hy : RowD w b l) (hl : l.length ≤ 1000000) :
    Calls Try.prog 26 #[.slice a l.length c, .slice b l.length d] w fun e w' => e = .returned (.bool true) ∧ Below w.heap.size w w' :=
  (same_ref l l a b c d w hx hy (by omega) (by omega)).mono fun e w' h => ⟨by rw [h.1]; simp, h.2⟩
theorem od_first {w : World} {base : Nat} {v : Value} {l : List Dt} (h : OD w base E v l) (hl : l ≠ []) : ∃ g n, v = .slice (some ⟨g, 0, none⟩) l.length n ∧ SV w (.slice (some ⟨g, 0, none⟩) l.length n) l := by
  have hs : SV w v l := SV.of_od h
  obtain ⟨a, c, rfl, -, hn, -, hx⟩ := h.row
  rcases a with _ | x
  · exact absurd (hn rfl).2 hl
  · obtain ⟨e, -⟩ := hx x rfl
    obtain ⟨b, o, s⟩ := x
    cases e
    exact ⟨b, c, rfl, hs⟩
theorem first_cells {w : World} {g k n : Nat} {d : Dt} {l : List Dt} (h : SV w (.slice (some ⟨g, 0, none⟩) k n) (d :: l)) : w.cell? ⟨g, 0, none⟩ = some (.int .i64 d.1) ∧ w.cell? ⟨g, 1, none⟩ = some (.int .i64 d.2) := by
  obtain ⟨b, o, e, hc⟩ := (SV.r h).1.resolve_left (by simp)
  cases e
  have := hc 0 (by simp)
  simpa using this
theorem ix_first (g n c : Nat) (hn : 0 < n) : ∀ w, (Instr.indexAt 22 (.slice (some ⟨g, 0, none⟩) n c) (.int .i64 0)).run Try.prog w = .ok (.pointer (some ⟨g, 0, none⟩)) w := by
  intro w
  have hk2 : (0 : Int) < (n : Int) := by omega
  go_simp

set_option maxRecDepth 100000 in
set_option maxHeartbeats 16000000 in
theorem known_any (w0 : World) : Calls Try.prog 10 #[] w0 fun e w' => e = .returned (.bool true) ∧ Below w0.heap.size w0 w' := by
  have HB : Hid (Below w0.heap.size w0 w0) := Below.refl _ _
  go_enter Try.func10, Try.ntmps10
  have HR1 := Lib.hid (RowD.lit (w0) [(1, 2), (1, 4)] #[.int .i64 1, .int .i64 2, .int .i64 1, .int .i64 4] 3 (0, 0) rfl)
  have hb := bel_box (w0) (.cells #[.int .i64 1, .int .i64 2, .int .i64 1, .int .i64 4] 3)
  replace HB := bel_tr HB hb
  clear hb
  go_wp2_with fail
  generalize w0.alloc (.cells #[.int .i64 1, .int .i64 2, .int .i64 1, .int .i64 4] 3) = w1 at *
  refine (con_any 1 [(1, 2), (1, 4)] (some ⟨w0.heap.size, 0, none⟩) 4 _ HR1.out (by decide) (by decide)).mono ?_
  rintro e w2 ⟨x, y, rfl, hsx, hsy, hb⟩
  replace HR1 := Lib.hid (HR1.out.keep hb)
  replace HB := bel_tr HB hb
  clear hb
  obtain ⟨a2, n2, rfl, -⟩ := SV.sh hsx
  obtain ⟨b2, m2, rfl, -⟩ := SV.sh hsy
  have HX2 : Hid (SV w2 (.slice a2 1 n2) [(1, 2)]) := hsx
  have HY2 : Hid (SV w2 (.slice b2 1 m2) [(1, 4)]) := hsy
  clear hsx hsy
  clear HR1
  have HZ1 := Lib.hid (two_new (w2) (.slice a2 1 n2) (.slice b2 1 m2))
  have hb := bel_box (w2) (cbox (.slice a2 1 n2) (.slice b2 1 m2))
  replace HX2 := Lib.hid (HX2.out.keep hb)
  replace HY2 := Lib.hid (HY2.out.keep hb)
  replace HB := bel_tr HB hb
  clear hb
  have HZ2 := Lib.hid (two_new (w2.alloc (cbox (.slice a2 1 n2) (.slice b2 1 m2))) (.slice none 0 0) (.slice none 0 0))
  rw [show (w2.alloc (cbox (.slice a2 1 n2) (.slice b2 1 m2))).heap.size = w2.heap.size + 1 by simp] at HZ2
  have hb := bel_box (w2.alloc (cbox (.slice a2 1 n2) (.slice b2 1 m2))) (cbox (.slice none 0 0) (.slice none 0 0))
  replace HX2 := Lib.hid (HX2.out.keep hb)
  replace HY2 := Lib.hid (HY2.out.keep hb)
  replace HZ1 := Lib.hid (HZ1.out.keep hb)
  replace HB := bel_tr HB hb
  clear hb
  have HR3 := Lib.hid (RowD.lit ((w2.alloc (cbox (.slice a2 1 n2) (.slice b2 1 m2))).alloc (cbox (.slice none 0 0) (.slice none 0 0))) [(1, 2), (2, 1), (1, 3), (1, 5)] #[.int .i64 1, .int .i64 2, .int .i64 2, .int .i64 1, .int .i64 1, .int .i64 3, .int .i64 1, .int .i64 5] 3 (0, 0) rfl)
  rw [show ((w2.alloc (cbox (.slice a2 1 n2) (.slice b2 1 m2))).alloc (cbox (.slice none 0 0) (.slice none 0 0))).heap.size = w2.heap.size + 1 + 1 by simp] at HR3
  have hb := bel_box ((w2.alloc (cbox (.slice a2 1 n2) (.slice b2 1 m2))).alloc (cbox (.slice none 0 0) (.slice none 0 0))) (.cells #[.int .i64 1, .int .i64 2, .int .i64 2, .int .i64 1, .int .i64 1, .int .i64 3, .int .i64 1, .int .i64 5] 3)
  replace HX2 := Lib.hid (HX2.out.keep hb)
  replace HY2 := Lib.hid (HY2.out.keep hb)
  replace HZ1 := Lib.hid (HZ1.out.keep hb)
  replace HZ2 := Lib.hid (HZ2.out.keep hb)
  replace HB := bel_tr HB hb
  clear hb
  go_wp2_with fail
  generalize ((w2.alloc (cbox (.slice a2 1 n2) (.slice b2 1 m2))).alloc (cbox (.slice none 0 0) (.slice none 0 0))).alloc (.cells #[.int .i64 1, .int .i64 2, .int .i64 2, .int .i64 1, .int .i64 1, .int .i64 3, .int .i64 1, .int .i64 5] 3) = w3 at *
  refine (con_any 1 [(1, 2), (2, 1), (1, 3), (1, 5)] (some ⟨w2.heap.size + 1 + 1, 0, none⟩) 8 _ HR3.out (by decide) (by decide)).mono ?_
  rintro e w4 ⟨x, y, rfl, hsx, hsy, hb⟩
  replace HX2 := Lib.hid (HX2.out.keep hb)
  replace HY2 := Lib.hid (HY2.out.keep hb)
  replace HZ1 := Lib.hid (HZ1.out.keep hb)
  replace HZ2 := Lib.hid (HZ2.out.keep hb)
  replace HR3 := Lib.hid (HR3.out.keep hb)
  replace HB := bel_tr HB hb
  clear hb
  obtain ⟨a4, n4, rfl, -⟩ := SV.sh hsx
  obtain ⟨b4, m4, rfl, -⟩ := SV.sh hsy
  have HX4 : Hid (SV w4 (.slice a4 1 n4) [(1, 2)]) := hsx
  have HY4 : Hid (SV w4 (.slice b4 3 m4) [(2, 1), (1, 3), (1, 5)]) := hsy
  clear hsx hsy
  clear HR3
  have HR5 := Lib.hid (RowD.lit (w4) [(1, 3), (2, 1), (1, 5)] #[.int .i64 1, .int .i64 3, .int .i64 2, .int .i64 1, .int .i64 1, .int .i64 5] 3 (0, 0) rfl)
  have hb := bel_box (w4) (.cells #[.int .i64 1, .int .i64 3, .int .i64 2, .int .i64 1, .int .i64 1, .int .i64 5] 3)
  replace HX2 := Lib.hid (HX2.out.keep hb)
  replace HY2 := Lib.hid (HY2.out.keep hb)
  replace HZ1 := Lib.hid (HZ1.out.keep hb)
  replace HZ2 := Lib.hid (HZ2.out.keep hb)
  replace HX4 := Lib.hid (HX4.out.keep hb)
  replace HY4 := Lib.hid (HY4.out.keep hb)
  replace HB := bel_tr HB hb
  clear hb
  go_wp2_with fail
  generalize w4.alloc (.cells #[.int .i64 1, .int .i64 3, .int .i64 2, .int .i64 1, .int .i64 1, .int .i64 5] 3) = w5 at *
  refine (con_any 2 [(1, 3), (2, 1), (1, 5)] (some ⟨w4.heap.size, 0, none⟩) 6 _ HR5.out (by decide) (by decide)).mono ?_
  rintro e w6 ⟨x, y, rfl, hsx, hsy, hb⟩
  replace HX2 := Lib.hid (HX2.out.keep hb)
  replace HY2 := Lib.hid (HY2.out.keep hb)
  replace HZ1 := Lib.hid (HZ1.out.keep hb)
  replace HZ2 := Lib.hid (HZ2.out.keep hb)
  replace HX4 := Lib.hid (HX4.out.keep hb)
  replace HY4 := Lib.hid (HY4.out.keep hb)
  replace HR5 := Lib.hid (HR5.out.keep hb)
  replace HB := bel_tr HB hb
  clear hb
  obtain ⟨a6, n6, rfl, -⟩ := SV.sh hsx
  obtain ⟨b6, m6, rfl, -⟩ := SV.sh hsy
  have HX6 : Hid (SV w6 (.slice a6 2 n6) [(1, 3), (2, 1)]) := hsx
  have HY6 : Hid (SV w6 (.slice b6 1 m6) [(1, 5)]) := hsy
  clear hsx hsy
  clear HR5
  go_wp2_with fail
  refine (compacts_true [(1, 2)] [(2, 1), (1, 3), (1, 5)] a4 b4 n4 m4 (.slice a6 2 n6) (.slice b6 1 m6) ([(1, 3), (2, 1)], [(1, 5)]) 0 _ (SV.r HX4.out).1 (SV.r HY4.out).1 (SV.r HX4.out).2.1 (by decide) (by decide) HX6.out HY6.out (by decide) ex1).mono ?_
  rintro e w7 ⟨rfl, hb⟩
  replace HX2 := Lib.hid (HX2.out.keep hb)
  replace HY2 := Lib.hid (HY2.out.keep hb)
  replace HZ1 := Lib.hid (HZ1.out.keep hb)
  replace HZ2 := Lib.hid (HZ2.out.keep hb)
  replace HX4 := Lib.hid (HX4.out.keep hb)
  replace HY4 := Lib.hid (HY4.out.keep hb)
  replace HX6 := Lib.hid (HX6.out.keep hb)
  replace HY6 := Lib.hid (HY6.out.keep hb)
  replace HB := bel_tr HB hb
  clear hb
  clear HX4 HY4 HX6 HY6
  have HR7 := Lib.hid (RowD.lit (w7) [(1, 2), (1, 4)] #[.int .i64 1, .int .i64 2, .int .i64 1, .int .i64 4] 3 (0, 0) rfl)
  have hb := bel_box (w7) (.cells #[.int .i64 1, .int .i64 2, .int .i64 1, .int .i64 4] 3)
  replace HX2 := Lib.hid (HX2.out.keep hb)
  replace HY2 := Lib.hid (HY2.out.keep hb)
  replace HZ1 := Lib.hid (HZ1.out.keep hb)
  replace HZ2 := Lib.hid (HZ2.out.keep hb)
  replace HB := bel_tr HB hb
  clear hb
  go_wp2_with fail
  generalize w7.alloc (.cells #[.int .i64 1, .int .i64 2, .int .i64 1, .int .i64 4] 3) = w8 at *
  refine (con_any 0 [(1, 2), (1, 4)] (some ⟨w7.heap.size, 0, none⟩) 4 _ HR7.out (by decide) (by decide)).mono ?_
  rintro e w9 ⟨x, y, rfl, hsx, hsy, hb⟩
  replace HX2 := Lib.hid (HX2.out.keep hb)
  replace HY2 := Lib.hid (HY2.out.keep hb)
  replace HZ1 := Lib.hid (HZ1.out.keep hb)
  replace HZ2 := Lib.hid (HZ2.out.keep hb)
  replace HR7 := Lib.hid (HR7.out.keep hb)
  replace HB := bel_tr HB hb
  clear hb
  obtain ⟨a8, n8, rfl, -⟩ := SV.sh hsx
  obtain ⟨b8, m8, rfl, -⟩ := SV.sh hsy
  have HX8 : Hid (SV w9 (.slice a8 0 n8) []) := hsx
  have HY8 : Hid (SV w9 (.slice b8 2 m8) [(1, 2), (1, 4)]) := hsy
  clear hsx hsy
  clear HR7
  have HR9 := Lib.hid (RowD.lit (w9) [(1, 2), (1, 4)] #[.int .i64 1, .int .i64 2, .int .i64 1, .int .i64 4] 3 (0, 0) rfl)
  have hb := bel_box (w9) (.cells #[.int .i64 1, .int .i64 2, .int .i64 1, .int .i64 4] 3)
  replace HX2 := Lib.hid (HX2.out.keep hb)
  replace HY2 := Lib.hid (HY2.out.keep hb)
  replace HZ1 := Lib.hid (HZ1.out.keep hb)
  replace HZ2 := Lib.hid (HZ2.out.keep hb)
  replace HX8 := Lib.hid (HX8.out.keep hb)
  replace HY8 := Lib.hid (HY8.out.keep hb)
  replace HB := bel_tr HB hb
  clear hb
  go_wp2_with fail
  generalize w9.alloc (.cells #[.int .i64 1, .int .i64 2, .int .i64 1, .int .i64 4] 3) = w10 at *
  refine (con_any 0 [(1, 2), (1, 4)] (some ⟨w9.heap.size, 0, none⟩) 4 _ HR9.out (by decide) (by decide)).mono ?_
  rintro e w11 ⟨x, y, rfl, hsx, hsy, hb⟩
  replace HX2 := Lib.hid (HX2.out.keep hb)
  replace HY2 := Lib.hid (HY2.out.keep hb)
  replace HZ1 := Lib.hid (HZ1.out.keep hb)
  replace HZ2 := Lib.hid (HZ2.out.keep hb)
  replace HX8 := Lib.hid (HX8.out.keep hb)
  replace HY8 := Lib.hid (HY8.out.keep hb)
  replace HR9 := Lib.hid (HR9.out.keep hb)
  replace HB := bel_tr HB hb
  clear hb
  obtain ⟨a10, n10, rfl, -⟩ := SV.sh hsx
  obtain ⟨b10, m10, rfl, -⟩ := SV.sh hsy
  have HX10 : Hid (SV w11 (.slice a10 0 n10) []) := hsx
  have HY10 : Hid (SV w11 (.slice b10 2 m10) [(1, 2), (1, 4)]) := hsy
  clear hsx hsy
  clear HR9
  go_wp2_with fail
  refine (compacts_true [] [(1, 2), (1, 4)] a8 b8 n8 m8 (.slice a10 0 n10) (.slice b10 2 m10) ([], [(1, 2), (1, 4)]) 0 _ (SV.r HX8.out).1 (SV.r HY8.out).1 (SV.r HX8.out).2.1 (by decide) (by decide) HX10.out HY10.out (by decide) ex2).mono ?_
  rintro e w12 ⟨rfl, hb⟩
  replace HX2 := Lib.hid (HX2.out.keep hb)
  replace HY2 := Lib.hid (HY2.out.keep hb)
  replace HZ1 := Lib.hid (HZ1.out.keep hb)
  replace HZ2 := Lib.hid (HZ2.out.keep hb)
  replace HX8 := Lib.hid (HX8.out.keep hb)
  replace HY8 := Lib.hid (HY8.out.keep hb)
  replace HX10 := Lib.hid (HX10.out.keep hb)
  replace HY10 := Lib.hid (HY10.out.keep hb)
  replace HB := bel_tr HB hb
  clear hb
  clear HX8 HY8 HX10 HY10
  have HR11 := Lib.hid (RowD.lit (w12) [(1, 5), (1, 3)] #[.int .i64 1, .int .i64 5, .int .i64 1, .int .i64 3] 3 (0, 0) rfl)
  have hb := bel_box (w12) (.cells #[.int .i64 1, .int .i64 5, .int .i64 1, .int .i64 3] 3)
  replace HX2 := Lib.hid (HX2.out.keep hb)
  replace HY2 := Lib.hid (HY2.out.keep hb)
  replace HZ1 := Lib.hid (HZ1.out.keep hb)
  replace HZ2 := Lib.hid (HZ2.out.keep hb)
  replace HB := bel_tr HB hb
  clear hb
  go_wp2_with fail
  generalize w12.alloc (.cells #[.int .i64 1, .int .i64 5, .int .i64 1, .int .i64 3] 3) = w13 at *
  refine (con_any 1 [(1, 5), (1, 3)] (some ⟨w12.heap.size, 0, none⟩) 4 _ HR11.out (by decide) (by decide)).mono ?_
  rintro e w14 ⟨x, y, rfl, hsx, hsy, hb⟩
  replace HX2 := Lib.hid (HX2.out.keep hb)
  replace HY2 := Lib.hid (HY2.out.keep hb)
  replace HZ1 := Lib.hid (HZ1.out.keep hb)
  replace HZ2 := Lib.hid (HZ2.out.keep hb)
  replace HR11 := Lib.hid (HR11.out.keep hb)
  replace HB := bel_tr HB hb
  clear hb
  obtain ⟨a12, n12, rfl, -⟩ := SV.sh hsx
  obtain ⟨b12, m12, rfl, -⟩ := SV.sh hsy
  have HX12 : Hid (SV w14 (.slice a12 1 n12) [(1, 5)]) := hsx
  have HY12 : Hid (SV w14 (.slice b12 1 m12) [(1, 3)]) := hsy
  clear hsx hsy
  clear HR11
  have HR13 := Lib.hid (RowD.lit (w14) [(1, 5)] #[.int .i64 1, .int .i64 5] 3 (0, 0) rfl)
  have hb := bel_box (w14) (.cells #[.int .i64 1, .int .i64 5] 3)
  replace HX2 := Lib.hid (HX2.out.keep hb)
  replace HY2 := Lib.hid (HY2.out.keep hb)
  replace HZ1 := Lib.hid (HZ1.out.keep hb)
  replace HZ2 := Lib.hid (HZ2.out.keep hb)
  replace HX12 := Lib.hid (HX12.out.keep hb)
  replace HY12 := Lib.hid (HY12.out.keep hb)
  replace HB := bel_tr HB hb
  clear hb
  go_wp2_with fail
  generalize w14.alloc (.cells #[.int .i64 1, .int .i64 5] 3) = w15 at *
  refine (con_any 1 [(1, 5)] (some ⟨w14.heap.size, 0, none⟩) 2 _ HR13.out (by decide) (by decide)).mono ?_
  rintro e w16 ⟨x, y, rfl, hsx, hsy, hb⟩
  replace HX2 := Lib.hid (HX2.out.keep hb)
  replace HY2 := Lib.hid (HY2.out.keep hb)
  replace HZ1 := Lib.hid (HZ1.out.keep hb)
  replace HZ2 := Lib.hid (HZ2.out.keep hb)
  replace HX12 := Lib.hid (HX12.out.keep hb)
  replace HY12 := Lib.hid (HY12.out.keep hb)
  replace HR13 := Lib.hid (HR13.out.keep hb)
  replace HB := bel_tr HB hb
  clear hb
  obtain ⟨a14, n14, rfl, -⟩ := SV.sh hsx
  obtain ⟨b14, m14, rfl, -⟩ := SV.sh hsy
  have HX14 : Hid (SV w16 (.slice a14 1 n14) [(1, 5)]) := hsx
  have HY14 : Hid (SV w16 (.slice b14 0 m14) []) := hsy
  clear hsx hsy
  clear HR13
  go_wp2_with fail
  refine (compacts_true [(1, 5)] [(1, 3)] a12 b12 n12 m12 (.slice a14 1 n14) (.slice b14 0 m14) ([(1, 5)], []) 0 _ (SV.r HX12.out).1 (SV.r HY12.out).1 (SV.r HX12.out).2.1 (by decide) (by decide) HX14.out HY14.out (by decide) ex3).mono ?_
  rintro e w17 ⟨rfl, hb⟩
  replace HX2 := Lib.hid (HX2.out.keep hb)
  replace HY2 := Lib.hid (HY2.out.keep hb)
  replace HZ1 := Lib.hid (HZ1.out.keep hb)
  replace HZ2 := Lib.hid (HZ2.out.keep hb)
  replace HX12 := Lib.hid (HX12.out.keep hb)
  replace HY12 := Lib.hid (HY12.out.keep hb)
  replace HX14 := Lib.hid (HX14.out.keep hb)
  replace HY14 := Lib.hid (HY14.out.keep hb)
  replace HB := bel_tr HB hb
  clear hb
  clear HX12 HY12 HX14 HY14
  have k0 := HZ1.out.1
  have k1 := HZ1.out.2
  go_wp2_with fail
  refine (isCompact_any [(1, 2)] [(1, 4)] a2 b2 n2 m2 _ (SV.r HX2.out).1 (SV.r HY2.out).1 (by decide) (by decide)).mono ?_
  rintro e w18 ⟨rfl, hb⟩
  replace HX2 := Lib.hid (HX2.out.keep hb)
  replace HY2 := Lib.hid (HY2.out.keep hb)
  replace HZ1 := Lib.hid (HZ1.out.keep hb)
  replace HZ2 := Lib.hid (HZ2.out.keep hb)
  replace HB := bel_tr HB hb
  clear hb
  rw [ex4]
  clear k0 k1
  have HR15 := Lib.hid (RowD.lit (w18) [(1, 2), (1, 3)] #[.int .i64 1, .int .i64 2, .int .i64 1, .int .i64 3] 3 (0, 0) rfl)
  have hb := bel_box (w18) (.cells #[.int .i64 1, .int .i64 2, .int .i64 1, .int .i64 3] 3)
  replace HX2 := Lib.hid (HX2.out.keep hb)
  replace HY2 := Lib.hid (HY2.out.keep hb)
  replace HZ1 := Lib.hid (HZ1.out.keep hb)
  replace HZ2 := Lib.hid (HZ2.out.keep hb)
  replace HB := bel_tr HB hb
  clear hb
  go_wp2_with fail
  generalize w18.alloc (.cells #[.int .i64 1, .int .i64 2, .int .i64 1, .int .i64 3] 3) = w19 at *
  refine (con_any 1 [(1, 2), (1, 3)] (some ⟨w18.heap.size, 0, none⟩) 4 _ HR15.out (by decide) (by decide)).mono ?_
  rintro e w20 ⟨x, y, rfl, hsx, hsy, hb⟩
  replace HX2 := Lib.hid (HX2.out.keep hb)
  replace HY2 := Lib.hid (HY2.out.keep hb)
  replace HZ1 := Lib.hid (HZ1.out.keep hb)
  replace HZ2 := Lib.hid (HZ2.out.keep hb)
  replace HR15 := Lib.hid (HR15.out.keep hb)
  replace HB := bel_tr HB hb
  clear hb
  obtain ⟨a16, n16, rfl, -⟩ := SV.sh hsx
  obtain ⟨b16, m16, rfl, -⟩ := SV.sh hsy
  have HX16 : Hid (SV w20 (.slice a16 1 n16) [(1, 2)]) := hsx
  have HY16 : Hid (SV w20 (.slice b16 1 m16) [(1, 3)]) := hsy
  clear hsx hsy
  clear HR15
  go_wp2_with fail
  refine (isCompact_any [(1, 2)] [(1, 3)] a16 b16 n16 m16 _ (SV.r HX16.out).1 (SV.r HY16.out).1 (by decide) (by decide)).mono ?_
  rintro e w21 ⟨rfl, hb⟩
  replace HX2 := Lib.hid (HX2.out.keep hb)
  replace HY2 := Lib.hid (HY2.out.keep hb)
  replace HZ1 := Lib.hid (HZ1.out.keep hb)
  replace HZ2 := Lib.hid (HZ2.out.keep hb)
  replace HX16 := Lib.hid (HX16.out.keep hb)
  replace HY16 := Lib.hid (HY16.out.keep hb)
  replace HB := bel_tr HB hb
  clear hb
  rw [ex5]
  clear HX16 HY16
  have HR17 := Lib.hid (RowD.lit (w21) [(1, 2), (1, 4), (1, 3)] #[.int .i64 1, .int .i64 2, .int .i64 1, .int .i64 4, .int .i64 1, .int .i64 3] 3 (0, 0) rfl)
  have hb := bel_box (w21) (.cells #[.int .i64 1, .int .i64 2, .int .i64 1, .int .i64 4, .int .i64 1, .int .i64 3] 3)
  replace HX2 := Lib.hid (HX2.out.keep hb)
  replace HY2 := Lib.hid (HY2.out.keep hb)
  replace HZ1 := Lib.hid (HZ1.out.keep hb)
  replace HZ2 := Lib.hid (HZ2.out.keep hb)
  replace HB := bel_tr HB hb
  clear hb
  go_wp2_with fail
  generalize w21.alloc (.cells #[.int .i64 1, .int .i64 2, .int .i64 1, .int .i64 4, .int .i64 1, .int .i64 3] 3) = w22 at *
  refine (con_any 1 [(1, 2), (1, 4), (1, 3)] (some ⟨w21.heap.size, 0, none⟩) 6 _ HR17.out (by decide) (by decide)).mono ?_
  rintro e w23 ⟨x, y, rfl, hsx, hsy, hb⟩
  replace HX2 := Lib.hid (HX2.out.keep hb)
  replace HY2 := Lib.hid (HY2.out.keep hb)
  replace HZ1 := Lib.hid (HZ1.out.keep hb)
  replace HZ2 := Lib.hid (HZ2.out.keep hb)
  replace HR17 := Lib.hid (HR17.out.keep hb)
  replace HB := bel_tr HB hb
  clear hb
  obtain ⟨a18, n18, rfl, -⟩ := SV.sh hsx
  obtain ⟨b18, m18, rfl, -⟩ := SV.sh hsy
  have HX18 : Hid (SV w23 (.slice a18 1 n18) [(1, 2)]) := hsx
  have HY18 : Hid (SV w23 (.slice b18 2 m18) [(1, 4), (1, 3)]) := hsy
  clear hsx hsy
  clear HR17
  go_wp2_with fail
  refine (valid_any [(1, 2)] [(1, 4), (1, 3)] a18 b18 n18 m18 _ (SV.r HX18.out).1 (SV.r HY18.out).1 (by decide) (by decide)).mono ?_
  rintro e w24 ⟨rfl, hb⟩
  replace HX2 := Lib.hid (HX2.out.keep hb)
  replace HY2 := Lib.hid (HY2.out.keep hb)
  replace HZ1 := Lib.hid (HZ1.out.keep hb)
  replace HZ2 := Lib.hid (HZ2.out.keep hb)
  replace HX18 := Lib.hid (HX18.out.keep hb)
  replace HY18 := Lib.hid (HY18.out.keep hb)
  replace HB := bel_tr HB hb
  clear hb
  rw [ex6]
  clear HX18 HY18
  have HSb : Hid (Sb2 w2.heap.size (w2.heap.size + 1) (.slice a2 1 n2) (.slice b2 1 m2) (.slice none 0 0) (.slice none 0 0) w24) := ⟨HZ1.out, HZ2.out⟩
  clear HZ1 HZ2
  generalize hg1 : w2.heap.size = g1 at *
  clear hg1
  go_wp2_with fail
  generalize hh1 : g1 + 1 = h1 at *
  clear hh1
  go_cut [82] from 43 to 81 (fun c wx => c = .bool false ∧ Hid (SV wx (.slice a2 1 n2) [(1, 2)]) ∧ Hid (SV wx (.slice b2 1 m2) [(1, 4)]) ∧ Hid (Sb2 g1 h1 (.slice a2 1 n2) (.slice b2 1 m2) (.slice none 0 0) (.slice none 0 0) wx) ∧ Hid (Below w0.heap.size w0 wx))
  case first =>
    refine Sch.wp_region_tree (Sb2 g1 h1 (.slice a2 1 n2) (.slice b2 1 m2) (.slice none 0 0) (.slice none 0 0)) (.take 0 (.one 1 (.one 2 (.take 3 (.one 4 (.one 5 (.take 6 (.take 7 (.take 8 (.one 9 (.one 10 (.take 11 (.one 12 (.one 13 (.take 14 (.take 15 (.take 16 (.one 17 (.one 18 (.take 19 (.one 20 (.one 21 (.take 22 (.take 23 (.take 24 (.one 25 (.one 26 (.one 27 (.take 28 (.take 29 (.take 30 (.take 31 (.two 32 (.two 33 (.two 34 (.one 35 (.one 36 (.one 37 (.take 38 (.take 39 .done))))) 35 (.one 34 (.one 36 (.one 37 (.take 38 (.take 39 .done)))))) 35 (.one 33 (.one 34 (.one 36 (.one 37 (.take 38 (.take 39 .done))))))) 35 (.one 32 (.one 33 (.one 34 (.one 36 (.one 37 (.take 38 (.take 39 .done)))))))))))))))))))))))))))))))))))))))) (by kernel_rfl) (by kernel_rfl) (HSb.out.keep ((Below.refl _ _).drew)) ?_
    have hb : Below w24.heap.size w24 w24.drew := (Below.refl _ _).drew
    replace HX2 := Lib.hid (HX2.out.keep hb)
    replace HY2 := Lib.hid (HY2.out.keep hb)
    replace HSb := Lib.hid (HSb.out.keep hb)
    replace HB := bel_tr HB hb
    clear hb
    generalize w24.drew = w25 at *
    refine tree_load _ _ _ _ _ rfl rfl rfl rfl (by first | exact Sb2.la | exact Sb2.l) rfl ?_
    simp only [Act.put, List.setIfInBounds_toArray, List.set_cons_zero, List.set_cons_succ]
    have HR19 := Lib.hid (RowD.lit w25 [(1, 1)] #[.int .i64 1, .int .i64 1] 3 (0, 0) rfl)
    have hb := bel_box w25 (.cells #[.int .i64 1, .int .i64 1] 3)
    replace HX2 := Lib.hid (HX2.out.keep hb)
    replace HY2 := Lib.hid (HY2.out.keep hb)
    replace HSb := Lib.hid (HSb.out.keep hb)
    replace HB := bel_tr HB hb
    clear hb
    refine Sch.tree_e rfl rfl (fun K hK => ?_)
    go_wp2_with fail
    refine hK _ _ HSb.out ?_
    clear hK K
    generalize w25.alloc (.cells #[.int .i64 1, .int .i64 1] 3) = w26 at *
    refine Sch.tree_e rfl rfl (fun K hK => ?_)
    go_wp2_with fail
    refine (of_list [(1, 1)] (some ⟨w25.heap.size, 0, none⟩) 2 _ HR19.out (by decide)).mono ?_
    rintro e w27 ⟨v, rfl, ho, hb⟩
    replace HX2 := Lib.hid (HX2.out.keep hb)
    replace HY2 := Lib.hid (HY2.out.keep hb)
    replace HSb := Lib.hid (HSb.out.keep hb)
    replace HR19 := Lib.hid (HR19.out.keep hb)
    replace HB := bel_tr HB hb
    clear hb
    obtain ⟨g20, n20, rfl, hsv⟩ := od_first ho (by simp)
    have HV20 : Hid (SV w27 (.slice (some ⟨g20, 0, none⟩) 1 n20) [(1, 1)]) := hsv
    clear ho hsv
    refine hK _ _ HSb.out ?_
    clear hK K
    clear HR19
    have hix20 := ix_first g20 1 n20 (by decide)
    refine Sch.tree_q rfl rfl (fun K hK => ?_)
    go_big_quiet_op
    first | refine hK _ ?_ | refine ⟨_, fun _ _ => rfl, hK _ ?_⟩
    clear hK K
    have k0 := (first_cells HV20.out).1
    have k1 := (first_cells HV20.out).2
    refine Sch.tree_e rfl rfl (fun K hK => ?_)
    go_wp2_with fail
    refine hK _ _ HSb.out ?_
    clear hK K k0 k1
    refine Sch.tree_e rfl rfl (fun K hK => ?_)
    go_wp2_with fail
    refine (has_any [(1, 2)] [(1, 4)] (1, 1) a2 b2 n2 m2 _ (SV.r HX2.out).1 (SV.r HY2.out).1 (by decide) (by decide)).mono ?_
    rintro e w28 ⟨rfl, hb⟩
    replace HX2 := Lib.hid (HX2.out.keep hb)
    replace HY2 := Lib.hid (HY2.out.keep hb)
    replace HSb := Lib.hid (HSb.out.keep hb)
    replace HV20 := Lib.hid (HV20.out.keep hb)
    replace HB := bel_tr HB hb
    clear hb
    rw [ex7]
    refine hK _ _ HSb.out ?_
    clear hK K
    clear HV20
    refine Sch.tree_q rfl rfl (fun K hK => ?_)
    go_big_quiet_op
    first | refine hK _ ?_ | refine ⟨_, fun _ _ => rfl, hK _ ?_⟩
    clear hK K
    refine Sch.tree_q rfl rfl (fun K hK => ?_)
    go_big_quiet_op
    first | refine hK _ ?_ | refine ⟨_, fun _ _ => rfl, hK _ ?_⟩
    clear hK K
    refine tree_load _ _ _ _ _ rfl rfl rfl rfl (by first | exact Sb2.la | exact Sb2.l) rfl ?_
    simp only [Act.put, List.setIfInBounds_toArray, List.set_cons_zero, List.set_cons_succ]
    have HR21 := Lib.hid (RowD.lit w28 [(1, 3)] #[.int .i64 1, .int .i64 3] 3 (0, 0) rfl)
    have hb := bel_box w28 (.cells #[.int .i64 1, .int .i64 3] 3)
    replace HX2 := Lib.hid (HX2.out.keep hb)
    replace HY2 := Lib.hid (HY2.out.keep hb)
    replace HSb := Lib.hid (HSb.out.keep hb)
    replace HB := bel_tr HB hb
    clear hb
    refine Sch.tree_e rfl rfl (fun K hK => ?_)
    go_wp2_with fail
    refine hK _ _ HSb.out ?_
    clear hK K
    generalize w28.alloc (.cells #[.int .i64 1, .int .i64 3] 3) = w29 at *
    refine Sch.tree_e rfl rfl (fun K hK => ?_)
    go_wp2_with fail
    refine (of_list [(1, 3)] (some ⟨w28.heap.size, 0, none⟩) 2 _ HR21.out (by decide)).mono ?_
    rintro e w30 ⟨v, rfl, ho, hb⟩
    replace HX2 := Lib.hid (HX2.out.keep hb)
    replace HY2 := Lib.hid (HY2.out.keep hb)
    replace HSb := Lib.hid (HSb.out.keep hb)
    replace HR21 := Lib.hid (HR21.out.keep hb)
    replace HB := bel_tr HB hb
    clear hb
    obtain ⟨g22, n22, rfl, hsv⟩ := od_first ho (by simp)
    have HV22 : Hid (SV w30 (.slice (some ⟨g22, 0, none⟩) 1 n22) [(1, 3)]) := hsv
    clear ho hsv
    refine hK _ _ HSb.out ?_
    clear hK K
    clear HR21
    have hix22 := ix_first g22 1 n22 (by decide)
    refine Sch.tree_q rfl rfl (fun K hK => ?_)
    go_big_quiet_op
    first | refine hK _ ?_ | refine ⟨_, fun _ _ => rfl, hK _ ?_⟩
    clear hK K
    have k0 := (first_cells HV22.out).1
    have k1 := (first_cells HV22.out).2
    refine Sch.tree_e rfl rfl (fun K hK => ?_)
    go_wp2_with fail
    refine hK _ _ HSb.out ?_
    clear hK K k0 k1
    refine Sch.tree_e rfl rfl (fun K hK => ?_)
    go_wp2_with fail
    refine (has_any [(1, 2)] [(1, 4)] (1, 3) a2 b2 n2 m2 _ (SV.r HX2.out).1 (SV.r HY2.out).1 (by decide) (by decide)).mono ?_
    rintro e w31 ⟨rfl, hb⟩
    replace HX2 := Lib.hid (HX2.out.keep hb)
    replace HY2 := Lib.hid (HY2.out.keep hb)
    replace HSb := Lib.hid (HSb.out.keep hb)
    replace HV22 := Lib.hid (HV22.out.keep hb)
    replace HB := bel_tr HB hb
    clear hb
    rw [ex8]
    refine hK _ _ HSb.out ?_
    clear hK K
    clear HV22
    refine Sch.tree_q rfl rfl (fun K hK => ?_)
    go_big_quiet_op
    first | refine hK _ ?_ | refine ⟨_, fun _ _ => rfl, hK _ ?_⟩
    clear hK K
    refine Sch.tree_q rfl rfl (fun K hK => ?_)
    go_big_quiet_op
    first | refine hK _ ?_ | refine ⟨_, fun _ _ => rfl, hK _ ?_⟩
    clear hK K
    refine tree_load _ _ _ _ _ rfl rfl rfl rfl (by first | exact Sb2.la | exact Sb2.l) rfl ?_
    simp only [Act.put, List.setIfInBounds_toArray, List.set_cons_zero, List.set_cons_succ]
    have HR23 := Lib.hid (RowD.lit w31 [(1, 4)] #[.int .i64 1, .int .i64 4] 3 (0, 0) rfl)
    have hb := bel_box w31 (.cells #[.int .i64 1, .int .i64 4] 3)
    replace HX2 := Lib.hid (HX2.out.keep hb)
    replace HY2 := Lib.hid (HY2.out.keep hb)
    replace HSb := Lib.hid (HSb.out.keep hb)
    replace HB := bel_tr HB hb
    clear hb
    refine Sch.tree_e rfl rfl (fun K hK => ?_)
    go_wp2_with fail
    refine hK _ _ HSb.out ?_
    clear hK K
    generalize w31.alloc (.cells #[.int .i64 1, .int .i64 4] 3) = w32 at *
    refine Sch.tree_e rfl rfl (fun K hK => ?_)
    go_wp2_with fail
    refine (of_list [(1, 4)] (some ⟨w31.heap.size, 0, none⟩) 2 _ HR23.out (by decide)).mono ?_
    rintro e w33 ⟨v, rfl, ho, hb⟩
    replace HX2 := Lib.hid (HX2.out.keep hb)
    replace HY2 := Lib.hid (HY2.out.keep hb)
    replace HSb := Lib.hid (HSb.out.keep hb)
    replace HR23 := Lib.hid (HR23.out.keep hb)
    replace HB := bel_tr HB hb
    clear hb
    obtain ⟨g24, n24, rfl, hsv⟩ := od_first ho (by simp)
    have HV24 : Hid (SV w33 (.slice (some ⟨g24, 0, none⟩) 1 n24) [(1, 4)]) := hsv
    clear ho hsv
    refine hK _ _ HSb.out ?_
    clear hK K
    clear HR23
    have hix24 := ix_first g24 1 n24 (by decide)
    refine Sch.tree_q rfl rfl (fun K hK => ?_)
    go_big_quiet_op
    first | refine hK _ ?_ | refine ⟨_, fun _ _ => rfl, hK _ ?_⟩
    clear hK K
    have k0 := (first_cells HV24.out).1
    have k1 := (first_cells HV24.out).2
    refine Sch.tree_e rfl rfl (fun K hK => ?_)
    go_wp2_with fail
    refine hK _ _ HSb.out ?_
    clear hK K k0 k1
    refine Sch.tree_e rfl rfl (fun K hK => ?_)
    go_wp2_with fail
    refine (has_any [(1, 2)] [(1, 4)] (1, 4) a2 b2 n2 m2 _ (SV.r HX2.out).1 (SV.r HY2.out).1 (by decide) (by decide)).mono ?_
    rintro e w34 ⟨rfl, hb⟩
    replace HX2 := Lib.hid (HX2.out.keep hb)
    replace HY2 := Lib.hid (HY2.out.keep hb)
    replace HSb := Lib.hid (HSb.out.keep hb)
    replace HV24 := Lib.hid (HV24.out.keep hb)
    replace HB := bel_tr HB hb
    clear hb
    rw [ex9]
    refine hK _ _ HSb.out ?_
    clear hK K
    clear HV24
    refine Sch.tree_q rfl rfl (fun K hK => ?_)
    go_big_quiet_op
    first | refine hK _ ?_ | refine ⟨_, fun _ _ => rfl, hK _ ?_⟩
    clear hK K
    refine Sch.tree_q rfl rfl (fun K hK => ?_)
    go_big_quiet_op
    first | refine hK _ ?_ | refine ⟨_, fun _ _ => rfl, hK _ ?_⟩
    clear hK K
    refine Sch.tree_q rfl rfl (fun K hK => ?_)
    go_big_quiet_op
    first | refine hK _ ?_ | refine ⟨_, fun _ _ => rfl, hK _ ?_⟩
    clear hK K
    have HR25 := Lib.hid (RowD.lit w34 [(1, 2), (1, 2), (1, 4)] #[.int .i64 1, .int .i64 2, .int .i64 1, .int .i64 2, .int .i64 1, .int .i64 4] 3 (0, 0) rfl)
    have hb := bel_box w34 (.cells #[.int .i64 1, .int .i64 2, .int .i64 1, .int .i64 2, .int .i64 1, .int .i64 4] 3)
    replace HX2 := Lib.hid (HX2.out.keep hb)
    replace HY2 := Lib.hid (HY2.out.keep hb)
    replace HSb := Lib.hid (HSb.out.keep hb)
    replace HB := bel_tr HB hb
    clear hb
    refine Sch.tree_e rfl rfl (fun K hK => ?_)
    go_wp2_with fail
    refine hK _ _ HSb.out ?_
    clear hK K
    generalize w34.alloc (.cells #[.int .i64 1, .int .i64 2, .int .i64 1, .int .i64 2, .int .i64 1, .int .i64 4] 3) = w35 at *
    refine Sch.tree_e rfl rfl (fun K hK => ?_)
    go_wp2_with fail
    refine (con_any 1 [(1, 2), (1, 2), (1, 4)] (some ⟨w34.heap.size, 0, none⟩) 6 _ HR25.out (by decide) (by decide)).mono ?_
    rintro e w36 ⟨x, y, rfl, hsx, hsy, hb⟩
    replace HX2 := Lib.hid (HX2.out.keep hb)
    replace HY2 := Lib.hid (HY2.out.keep hb)
    replace HSb := Lib.hid (HSb.out.keep hb)
    replace HR25 := Lib.hid (HR25.out.keep hb)
    replace HB := bel_tr HB hb
    clear hb
    obtain ⟨a26, n26, rfl, -⟩ := SV.sh hsx
    obtain ⟨b26, m26, rfl, -⟩ := SV.sh hsy
    have HX26 : Hid (SV w36 (.slice a26 1 n26) [(1, 2)]) := hsx
    have HY26 : Hid (SV w36 (.slice b26 2 m26) [(1, 2), (1, 4)]) := hsy
    clear hsx hsy
    refine hK _ _ HSb.out ?_
    clear hK K
    clear HR25
    refine Sch.tree_e rfl rfl (fun K hK => ?_)
    go_wp2_with fail
    refine (size_any [(1, 2)] [(1, 2), (1, 4)] a26 b26 n26 m26 _ (SV.r HX26.out).1 (SV.r HY26.out).1 (by decide) (by decide)).mono ?_
    rintro e w37 ⟨rfl, hb⟩
    replace HX2 := Lib.hid (HX2.out.keep hb)
    replace HY2 := Lib.hid (HY2.out.keep hb)
    replace HSb := Lib.hid (HSb.out.keep hb)
    replace HX26 := Lib.hid (HX26.out.keep hb)
    replace HY26 := Lib.hid (HY26.out.keep hb)
    replace HB := bel_tr HB hb
    clear hb
    rw [ex10]
    refine hK _ _ HSb.out ?_
    clear hK K
    clear HX26 HY26
    refine Sch.tree_q rfl rfl (fun K hK => ?_)
    go_big_quiet_op
    first | refine hK _ ?_ | refine ⟨_, fun _ _ => rfl, hK _ ?_⟩
    clear hK K
    refine Sch.tree_q rfl rfl (fun K hK => ?_)
    go_big_quiet_op
    first | refine hK _ ?_ | refine ⟨_, fun _ _ => rfl, hK _ ?_⟩
    clear hK K
    refine Sch.tree_q rfl rfl (fun K hK => ?_)
    go_big_quiet_op
    first | refine hK _ ?_ | refine ⟨_, fun _ _ => rfl, hK _ ?_⟩
    clear hK K
    refine tree_load _ _ _ _ _ rfl rfl rfl rfl (by first | exact Sb2.la | exact Sb2.l) rfl ?_
    simp only [Act.put, List.setIfInBounds_toArray, List.set_cons_zero, List.set_cons_succ]
    refine Sch.tree_two ?_ ?_
    · have HR27 := Lib.hid (RowD.lit w37 [(1, 5), (1, 3), (1, 4)] #[.int .i64 1, .int .i64 5, .int .i64 1, .int .i64 3, .int .i64 1, .int .i64 4] 3 (0, 0) rfl)
      have hb := bel_box w37 (.cells #[.int .i64 1, .int .i64 5, .int .i64 1, .int .i64 3, .int .i64 1, .int .i64 4] 3)
      replace HX2 := Lib.hid (HX2.out.keep hb)
      replace HY2 := Lib.hid (HY2.out.keep hb)
      replace HSb := Lib.hid (HSb.out.keep hb)
      replace HB := bel_tr HB hb
      clear hb
      refine Sch.tree_e rfl rfl (fun K hK => ?_)
      go_wp2_with fail
      refine hK _ _ HSb.out ?_
      clear hK K
      generalize w37.alloc (.cells #[.int .i64 1, .int .i64 5, .int .i64 1, .int .i64 3, .int .i64 1, .int .i64 4] 3) = w38 at *
      refine Sch.tree_two ?_ ?_
      · refine Sch.tree_e rfl rfl (fun K hK => ?_)
        go_wp2_with fail
        refine (of_list [(1, 5), (1, 3), (1, 4)] (some ⟨w37.heap.size, 0, none⟩) 6 _ HR27.out (by decide)).mono ?_
        rintro e w39 ⟨v, rfl, ho, hb⟩
        replace HX2 := Lib.hid (HX2.out.keep hb)
        replace HY2 := Lib.hid (HY2.out.keep hb)
        replace HSb := Lib.hid (HSb.out.keep hb)
        replace HR27 := Lib.hid (HR27.out.keep hb)
        replace HB := bel_tr HB hb
        clear hb
        obtain ⟨g28, n28, rfl, hsv⟩ := od_first ho (by simp)
        have HV28 : Hid (SV w39 (.slice (some ⟨g28, 0, none⟩) 3 n28) [(1, 5), (1, 3), (1, 4)]) := hsv
        clear ho hsv
        refine hK _ _ HSb.out ?_
        clear hK K
        clear HR27
        refine Sch.tree_two ?_ ?_
        · refine Sch.tree_e rfl rfl (fun K hK => ?_)
          go_wp2_with fail
          refine (missing_any [(1, 2)] [(1, 4)] [(1, 5), (1, 3), (1, 4)] a2 b2 (some ⟨g28, 0, none⟩) n2 m2 n28 _ (SV.r HX2.out).1 (SV.r HY2.out).1 (SV.r HV28.out).1 (by decide) (by decide) (by decide)).mono ?_
          rintro e w40 ⟨v, rfl, ho, hb⟩
          replace HX2 := Lib.hid (HX2.out.keep hb)
          replace HY2 := Lib.hid (HY2.out.keep hb)
          replace HSb := Lib.hid (HSb.out.keep hb)
          replace HV28 := Lib.hid (HV28.out.keep hb)
          replace HB := bel_tr HB hb
          clear hb
          rw [ex11] at ho
          obtain ⟨g29, n29, rfl, hsv⟩ := od_first ho (by simp)
          have HV29 : Hid (SV w40 (.slice (some ⟨g29, 0, none⟩) 2 n29) [(1, 3), (1, 5)]) := hsv
          clear ho hsv
          refine hK _ _ HSb.out ?_
          clear hK K
          clear HV28
          have HR30 := Lib.hid (RowD.lit w40 [(1, 3), (1, 5)] #[.int .i64 1, .int .i64 3, .int .i64 1, .int .i64 5] 3 (0, 0) rfl)
          have hb := bel_box w40 (.cells #[.int .i64 1, .int .i64 3, .int .i64 1, .int .i64 5] 3)
          replace HX2 := Lib.hid (HX2.out.keep hb)
          replace HY2 := Lib.hid (HY2.out.keep hb)
          replace HSb := Lib.hid (HSb.out.keep hb)
          replace HV29 := Lib.hid (HV29.out.keep hb)
          replace HB := bel_tr HB hb
          clear hb
          refine Sch.tree_e rfl rfl (fun K hK => ?_)
          go_wp2_with fail
          refine hK _ _ HSb.out ?_
          clear hK K
          generalize w40.alloc (.cells #[.int .i64 1, .int .i64 3, .int .i64 1, .int .i64 5] 3) = w41 at *
          refine Sch.tree_e rfl rfl (fun K hK => ?_)
          go_wp2_with fail
          refine (of_list [(1, 3), (1, 5)] (some ⟨w40.heap.size, 0, none⟩) 4 _ HR30.out (by decide)).mono ?_
          rintro e w42 ⟨v, rfl, ho, hb⟩
          replace HX2 := Lib.hid (HX2.out.keep hb)
          replace HY2 := Lib.hid (HY2.out.keep hb)
          replace HSb := Lib.hid (HSb.out.keep hb)
          replace HV29 := Lib.hid (HV29.out.keep hb)
          replace HR30 := Lib.hid (HR30.out.keep hb)
          replace HB := bel_tr HB hb
          clear hb
          obtain ⟨g31, n31, rfl, hsv⟩ := od_first ho (by simp)
          have HV31 : Hid (SV w42 (.slice (some ⟨g31, 0, none⟩) 2 n31) [(1, 3), (1, 5)]) := hsv
          clear ho hsv
          refine hK _ _ HSb.out ?_
          clear hK K
          clear HR30
          refine Sch.tree_e rfl rfl (fun K hK => ?_)
          go_wp2_with fail
          refine (same_true [(1, 3), (1, 5)] (some ⟨g29, 0, none⟩) (some ⟨g31, 0, none⟩) n29 n31 _ (SV.r HV29.out).1 (SV.r HV31.out).1 (by decide)).mono ?_
          rintro e w43 ⟨rfl, hb⟩
          replace HX2 := Lib.hid (HX2.out.keep hb)
          replace HY2 := Lib.hid (HY2.out.keep hb)
          replace HSb := Lib.hid (HSb.out.keep hb)
          replace HV29 := Lib.hid (HV29.out.keep hb)
          replace HV31 := Lib.hid (HV31.out.keep hb)
          replace HB := bel_tr HB hb
          clear hb
          refine hK _ _ HSb.out ?_
          clear hK K
          clear HV29 HV31
          refine Sch.tree_q rfl rfl (fun K hK => ?_)
          go_big_quiet_op
          first | refine hK _ ?_ | refine ⟨_, fun _ _ => rfl, hK _ ?_⟩
          clear hK K
          refine Sch.tree_q rfl rfl (fun K hK => ?_)
          go_big_quiet_op
          first | refine hK _ ?_ | refine ⟨_, fun _ _ => rfl, hK _ ?_⟩
          clear hK K
          refine Sch.tree_n ?_
          go_wp2_with fail
          go_meet
          case rel => exact ⟨rfl, HX2, HY2, HSb, HB⟩
        · have HR29 := Lib.hid (RowD.lit w39 [(1, 3), (1, 5)] #[.int .i64 1, .int .i64 3, .int .i64 1, .int .i64 5] 3 (0, 0) rfl)
          have hb := bel_box w39 (.cells #[.int .i64 1, .int .i64 3, .int .i64 1, .int .i64 5] 3)
          replace HX2 := Lib.hid (HX2.out.keep hb)
          replace HY2 := Lib.hid (HY2.out.keep hb)
          replace HSb := Lib.hid (HSb.out.keep hb)
          replace HV28 := Lib.hid (HV28.out.keep hb)
          replace HB := bel_tr HB hb
          clear hb
          refine Sch.tree_e rfl rfl (fun K hK => ?_)
          go_wp2_with fail
          refine hK _ _ HSb.out ?_
          clear hK K
          generalize w39.alloc (.cells #[.int .i64 1, .int .i64 3, .int .i64 1, .int .i64 5] 3) = w40 at *
          refine Sch.tree_e rfl rfl (fun K hK => ?_)
          go_wp2_with fail
          refine (missing_any [(1, 2)] [(1, 4)] [(1, 5), (1, 3), (1, 4)] a2 b2 (some ⟨g28, 0, none⟩) n2 m2 n28 _ (SV.r HX2.out).1 (SV.r HY2.out).1 (SV.r HV28.out).1 (by decide) (by decide) (by decide)).mono ?_
          rintro e w41 ⟨v, rfl, ho, hb⟩
          replace HX2 := Lib.hid (HX2.out.keep hb)
          replace HY2 := Lib.hid (HY2.out.keep hb)
          replace HSb := Lib.hid (HSb.out.keep hb)
          replace HV28 := Lib.hid (HV28.out.keep hb)
          replace HR29 := Lib.hid (HR29.out.keep hb)
          replace HB := bel_tr HB hb
          clear hb
          rw [ex11] at ho
          obtain ⟨g30, n30, rfl, hsv⟩ := od_first ho (by simp)
          have HV30 : Hid (SV w41 (.slice (some ⟨g30, 0, none⟩) 2 n30) [(1, 3), (1, 5)]) := hsv
          clear ho hsv
          refine hK _ _ HSb.out ?_
          clear hK K
          clear HV28
          refine Sch.tree_e rfl rfl (fun K hK => ?_)
          go_wp2_with fail
          refine (of_list [(1, 3), (1, 5)] (some ⟨w39.heap.size, 0, none⟩) 4 _ HR29.out (by decide)).mono ?_
          rintro e w42 ⟨v, rfl, ho, hb⟩
          replace HX2 := Lib.hid (HX2.out.keep hb)
          replace HY2 := Lib.hid (HY2.out.keep hb)
          replace HSb := Lib.hid (HSb.out.keep hb)
          replace HR29 := Lib.hid (HR29.out.keep hb)
          replace HV30 := Lib.hid (HV30.out.keep hb)
          replace HB := bel_tr HB hb
          clear hb
          obtain ⟨g31, n31, rfl, hsv⟩ := od_first ho (by simp)
          have HV31 : Hid (SV w42 (.slice (some ⟨g31, 0, none⟩) 2 n31) [(1, 3), (1, 5)]) := hsv
          clear ho hsv
          refine hK _ _ HSb.out ?_
          clear hK K
          clear HR29
          refine Sch.tree_e rfl rfl (fun K hK => ?_)
          go_wp2_with fail
          refine (same_true [(1, 3), (1, 5)] (some ⟨g30, 0, none⟩) (some ⟨g31, 0, none⟩) n30 n31 _ (SV.r HV30.out).1 (SV.r HV31.out).1 (by decide)).mono ?_
          rintro e w43 ⟨rfl, hb⟩
          replace HX2 := Lib.hid (HX2.out.keep hb)
          replace HY2 := Lib.hid (HY2.out.keep hb)
          replace HSb := Lib.hid (HSb.out.keep hb)
          replace HV30 := Lib.hid (HV30.out.keep hb)
          replace HV31 := Lib.hid (HV31.out.keep hb)
          replace HB := bel_tr HB hb
          clear hb
          refine hK _ _ HSb.out ?_
          clear hK K
          clear HV30 HV31
          refine Sch.tree_q rfl rfl (fun K hK => ?_)
          go_big_quiet_op
          first | refine hK _ ?_ | refine ⟨_, fun _ _ => rfl, hK _ ?_⟩
          clear hK K
          refine Sch.tree_q rfl rfl (fun K hK => ?_)
          go_big_quiet_op
          first | refine hK _ ?_ | refine ⟨_, fun _ _ => rfl, hK _ ?_⟩
          clear hK K
          refine Sch.tree_n ?_
          go_wp2_with fail
          go_meet
          case rel => exact ⟨rfl, HX2, HY2, HSb, HB⟩
      · have HR28 := Lib.hid (RowD.lit w38 [(1, 3), (1, 5)] #[.int .i64 1, .int .i64 3, .int .i64 1, .int .i64 5] 3 (0, 0) rfl)
        have hb := bel_box w38 (.cells #[.int .i64 1, .int .i64 3, .int .i64 1, .int .i64 5] 3)
        replace HX2 := Lib.hid (HX2.out.keep hb)
        replace HY2 := Lib.hid (HY2.out.keep hb)
        replace HSb := Lib.hid (HSb.out.keep hb)
        replace HR27 := Lib.hid (HR27.out.keep hb)
        replace HB := bel_tr HB hb
        clear hb
        refine Sch.tree_e rfl rfl (fun K hK => ?_)
        go_wp2_with fail
        refine hK _ _ HSb.out ?_
        clear hK K
        generalize w38.alloc (.cells #[.int .i64 1, .int .i64 3, .int .i64 1, .int .i64 5] 3) = w39 at *
        refine Sch.tree_e rfl rfl (fun K hK => ?_)
        go_wp2_with fail
        refine (of_list [(1, 5), (1, 3), (1, 4)] (some ⟨w37.heap.size, 0, none⟩) 6 _ HR27.out (by decide)).mono ?_
        rintro e w40 ⟨v, rfl, ho, hb⟩
        replace HX2 := Lib.hid (HX2.out.keep hb)
        replace HY2 := Lib.hid (HY2.out.keep hb)
        replace HSb := Lib.hid (HSb.out.keep hb)
        replace HR27 := Lib.hid (HR27.out.keep hb)
        replace HR28 := Lib.hid (HR28.out.keep hb)
        replace HB := bel_tr HB hb
        clear hb
        obtain ⟨g29, n29, rfl, hsv⟩ := od_first ho (by simp)
        have HV29 : Hid (SV w40 (.slice (some ⟨g29, 0, none⟩) 3 n29) [(1, 5), (1, 3), (1, 4)]) := hsv
        clear ho hsv
        refine hK _ _ HSb.out ?_
        clear hK K
        clear HR27
        refine Sch.tree_e rfl rfl (fun K hK => ?_)
        go_wp2_with fail
        refine (missing_any [(1, 2)] [(1, 4)] [(1, 5), (1, 3), (1, 4)] a2 b2 (some ⟨g29, 0, none⟩) n2 m2 n29 _ (SV.r HX2.out).1 (SV.r HY2.out).1 (SV.r HV29.out).1 (by decide) (by decide) (by decide)).mono ?_
        rintro e w41 ⟨v, rfl, ho, hb⟩
        replace HX2 := Lib.hid (HX2.out.keep hb)
        replace HY2 := Lib.hid (HY2.out.keep hb)
        replace HSb := Lib.hid (HSb.out.keep hb)
        replace HR28 := Lib.hid (HR28.out.keep hb)
        replace HV29 := Lib.hid (HV29.out.keep hb)
        replace HB := bel_tr HB hb
        clear hb
        rw [ex11] at ho
        obtain ⟨g30, n30, rfl, hsv⟩ := od_first ho (by simp)
        have HV30 : Hid (SV w41 (.slice (some ⟨g30, 0, none⟩) 2 n30) [(1, 3), (1, 5)]) := hsv
        clear ho hsv
        refine hK _ _ HSb.out ?_
        clear hK K
        clear HV29
        refine Sch.tree_e rfl rfl (fun K hK => ?_)
        go_wp2_with fail
        refine (of_list [(1, 3), (1, 5)] (some ⟨w38.heap.size, 0, none⟩) 4 _ HR28.out (by decide)).mono ?_
        rintro e w42 ⟨v, rfl, ho, hb⟩
        replace HX2 := Lib.hid (HX2.out.keep hb)
        replace HY2 := Lib.hid (HY2.out.keep hb)
        replace HSb := Lib.hid (HSb.out.keep hb)
        replace HR28 := Lib.hid (HR28.out.keep hb)
        replace HV30 := Lib.hid (HV30.out.keep hb)
        replace HB := bel_tr HB hb
        clear hb
        obtain ⟨g31, n31, rfl, hsv⟩ := od_first ho (by simp)
        have HV31 : Hid (SV w42 (.slice (some ⟨g31, 0, none⟩) 2 n31) [(1, 3), (1, 5)]) := hsv
        clear ho hsv
        refine hK _ _ HSb.out ?_
        clear hK K
        clear HR28
        refine Sch.tree_e rfl rfl (fun K hK => ?_)
        go_wp2_with fail
        refine (same_true [(1, 3), (1, 5)] (some ⟨g30, 0, none⟩) (some ⟨g31, 0, none⟩) n30 n31 _ (SV.r HV30.out).1 (SV.r HV31.out).1 (by decide)).mono ?_
        rintro e w43 ⟨rfl, hb⟩
        replace HX2 := Lib.hid (HX2.out.keep hb)
        replace HY2 := Lib.hid (HY2.out.keep hb)
        replace HSb := Lib.hid (HSb.out.keep hb)
        replace HV30 := Lib.hid (HV30.out.keep hb)
        replace HV31 := Lib.hid (HV31.out.keep hb)
        replace HB := bel_tr HB hb
        clear hb
        refine hK _ _ HSb.out ?_
        clear hK K
        clear HV30 HV31
        refine Sch.tree_q rfl rfl (fun K hK => ?_)
        go_big_quiet_op
        first | refine hK _ ?_ | refine ⟨_, fun _ _ => rfl, hK _ ?_⟩
        clear hK K
        refine Sch.tree_q rfl rfl (fun K hK => ?_)
        go_big_quiet_op
        first | refine hK _ ?_ | refine ⟨_, fun _ _ => rfl, hK _ ?_⟩
        clear hK K
        refine Sch.tree_n ?_
        go_wp2_with fail
        go_meet
        case rel => exact ⟨rfl, HX2, HY2, HSb, HB⟩
    · have HR27 := Lib.hid (RowD.lit w37 [(1, 3), (1, 5)] #[.int .i64 1, .int .i64 3, .int .i64 1, .int .i64 5] 3 (0, 0) rfl)
      have hb := bel_box w37 (.cells #[.int .i64 1, .int .i64 3, .int .i64 1, .int .i64 5] 3)
      replace HX2 := Lib.hid (HX2.out.keep hb)
      replace HY2 := Lib.hid (HY2.out.keep hb)
      replace HSb := Lib.hid (HSb.out.keep hb)
      replace HB := bel_tr HB hb
      clear hb
      refine Sch.tree_e rfl rfl (fun K hK => ?_)
      go_wp2_with fail
      refine hK _ _ HSb.out ?_
      clear hK K
      generalize w37.alloc (.cells #[.int .i64 1, .int .i64 3, .int .i64 1, .int .i64 5] 3) = w38 at *
      have HR28 := Lib.hid (RowD.lit w38 [(1, 5), (1, 3), (1, 4)] #[.int .i64 1, .int .i64 5, .int .i64 1, .int .i64 3, .int .i64 1, .int .i64 4] 3 (0, 0) rfl)
      have hb := bel_box w38 (.cells #[.int .i64 1, .int .i64 5, .int .i64 1, .int .i64 3, .int .i64 1, .int .i64 4] 3)
      replace HX2 := Lib.hid (HX2.out.keep hb)
      replace HY2 := Lib.hid (HY2.out.keep hb)
      replace HSb := Lib.hid (HSb.out.keep hb)
      replace HR27 := Lib.hid (HR27.out.keep hb)
      replace HB := bel_tr HB hb
      clear hb
      refine Sch.tree_e rfl rfl (fun K hK => ?_)
      go_wp2_with fail
      refine hK _ _ HSb.out ?_
      clear hK K
      generalize w38.alloc (.cells #[.int .i64 1, .int .i64 5, .int .i64 1, .int .i64 3, .int .i64 1, .int .i64 4] 3) = w39 at *
      refine Sch.tree_e rfl rfl (fun K hK => ?_)
      go_wp2_with fail
      refine (of_list [(1, 5), (1, 3), (1, 4)] (some ⟨w38.heap.size, 0, none⟩) 6 _ HR28.out (by decide)).mono ?_
      rintro e w40 ⟨v, rfl, ho, hb⟩
      replace HX2 := Lib.hid (HX2.out.keep hb)
      replace HY2 := Lib.hid (HY2.out.keep hb)
      replace HSb := Lib.hid (HSb.out.keep hb)
      replace HR27 := Lib.hid (HR27.out.keep hb)
      replace HR28 := Lib.hid (HR28.out.keep hb)
      replace HB := bel_tr HB hb
      clear hb
      obtain ⟨g29, n29, rfl, hsv⟩ := od_first ho (by simp)
      have HV29 : Hid (SV w40 (.slice (some ⟨g29, 0, none⟩) 3 n29) [(1, 5), (1, 3), (1, 4)]) := hsv
      clear ho hsv
      refine hK _ _ HSb.out ?_
      clear hK K
      clear HR28
      refine Sch.tree_e rfl rfl (fun K hK => ?_)
      go_wp2_with fail
      refine (missing_any [(1, 2)] [(1, 4)] [(1, 5), (1, 3), (1, 4)] a2 b2 (some ⟨g29, 0, none⟩) n2 m2 n29 _ (SV.r HX2.out).1 (SV.r HY2.out).1 (SV.r HV29.out).1 (by decide) (by decide) (by decide)).mono ?_
      rintro e w41 ⟨v, rfl, ho, hb⟩
      replace HX2 := Lib.hid (HX2.out.keep hb)
      replace HY2 := Lib.hid (HY2.out.keep hb)
      replace HSb := Lib.hid (HSb.out.keep hb)
      replace HR27 := Lib.hid (HR27.out.keep hb)
      replace HV29 := Lib.hid (HV29.out.keep hb)
      replace HB := bel_tr HB hb
      clear hb
      rw [ex11] at ho
      obtain ⟨g30, n30, rfl, hsv⟩ := od_first ho (by simp)
      have HV30 : Hid (SV w41 (.slice (some ⟨g30, 0, none⟩) 2 n30) [(1, 3), (1, 5)]) := hsv
      clear ho hsv
      refine hK _ _ HSb.out ?_
      clear hK K
      clear HV29
      refine Sch.tree_e rfl rfl (fun K hK => ?_)
      go_wp2_with fail
      refine (of_list [(1, 3), (1, 5)] (some ⟨w37.heap.size, 0, none⟩) 4 _ HR27.out (by decide)).mono ?_
      rintro e w42 ⟨v, rfl, ho, hb⟩
      replace HX2 := Lib.hid (HX2.out.keep hb)
      replace HY2 := Lib.hid (HY2.out.keep hb)
      replace HSb := Lib.hid (HSb.out.keep hb)
      replace HR27 := Lib.hid (HR27.out.keep hb)
      replace HV30 := Lib.hid (HV30.out.keep hb)
      replace HB := bel_tr HB hb
      clear hb
      obtain ⟨g31, n31, rfl, hsv⟩ := od_first ho (by simp)
      have HV31 : Hid (SV w42 (.slice (some ⟨g31, 0, none⟩) 2 n31) [(1, 3), (1, 5)]) := hsv
      clear ho hsv
      refine hK _ _ HSb.out ?_
      clear hK K
      clear HR27
      refine Sch.tree_e rfl rfl (fun K hK => ?_)
      go_wp2_with fail
      refine (same_true [(1, 3), (1, 5)] (some ⟨g30, 0, none⟩) (some ⟨g31, 0, none⟩) n30 n31 _ (SV.r HV30.out).1 (SV.r HV31.out).1 (by decide)).mono ?_
      rintro e w43 ⟨rfl, hb⟩
      replace HX2 := Lib.hid (HX2.out.keep hb)
      replace HY2 := Lib.hid (HY2.out.keep hb)
      replace HSb := Lib.hid (HSb.out.keep hb)
      replace HV30 := Lib.hid (HV30.out.keep hb)
      replace HV31 := Lib.hid (HV31.out.keep hb)
      replace HB := bel_tr HB hb
      clear hb
      refine hK _ _ HSb.out ?_
      clear hK K
      clear HV30 HV31
      refine Sch.tree_q rfl rfl (fun K hK => ?_)
      go_big_quiet_op
      first | refine hK _ ?_ | refine ⟨_, fun _ _ => rfl, hK _ ?_⟩
      clear hK K
      refine Sch.tree_q rfl rfl (fun K hK => ?_)
      go_big_quiet_op
      first | refine hK _ ?_ | refine ⟨_, fun _ _ => rfl, hK _ ?_⟩
      clear hK K
      refine Sch.tree_n ?_
      go_wp2_with fail
      go_meet
      case rel => exact ⟨rfl, HX2, HY2, HSb, HB⟩
  case rest =>
    obtain ⟨rfl, HX2, HY2, HSb, HB⟩ := hcut
    generalize wc = w124 at *
    go_wp2_with fail
    go_cut [113] from 83 to 112 (fun c wx => c = .bool false ∧ Hid (SV wx (.slice a2 1 n2) [(1, 2)]) ∧ Hid (SV wx (.slice b2 1 m2) [(1, 4)]) ∧ Hid (Sb2 g1 h1 (.slice a2 1 n2) (.slice b2 1 m2) (.slice none 0 0) (.slice none 0 0) wx) ∧ Hid (Below w0.heap.size w0 wx))
    case first =>
      refine Sch2.wp_region_tree2 (Sb2 g1 h1 (.slice a2 1 n2) (.slice b2 1 m2) (.slice none 0 0) (.slice none 0 0)) (.two 0 (.two 1 (.one 2 (.one 3 (.rest 27 [true, true, true, true, false, false, false, false, false, false, false, false, false, false, false, false, false, false, false, false, false, false, false, false, false, false, false, false, false, false, false]))) 2 (.one 1 (.one 3 (.rest 27 [true, true, true, true, false, false, false, false, false, false, false, false, false, false, false, false, false, false, false, false, false, false, false, false, false, false, false, false, false, false, false])))) 2 (.one 0 (.one 1 (.one 3 (.rest 27 [true, true, true, true, false, false, false, false, false, false, false, false, false, false, false, false, false, false, false, false, false, false, false, false, false, false, false, false, false, false, false]))))) (by kernel_rfl) (by kernel_rfl) (HSb.out.keep ((Below.refl _ _).drew)) ?_
      have hb : Below w124.heap.size w124 w124.drew := (Below.refl _ _).drew
      replace HX2 := Lib.hid (HX2.out.keep hb)
      replace HY2 := Lib.hid (HY2.out.keep hb)
      replace HSb := Lib.hid (HSb.out.keep hb)
      replace HB := bel_tr HB hb
      clear hb
      generalize w124.drew = w125 at *
      refine Sch2.share 27 [true, true, true, true, false, false, false, false, false, false, false, false, false, false, false, false, false, false, false, false, false, false, false, false, false, false, false, false, false, false, false] (fun (x : Ph) A => (((A.put (some 83) (.slice (some ⟨x.p, 0, none⟩) 8 8)).put (some 84) (.slice (some ⟨x.g, 0, none⟩) 4 x.n)).put (some 85) (.slice (some ⟨x.q, 0, none⟩) 4 4)).put (some 86) (cv (.slice x.a2 1 x.n2) (.slice x.b2 1 x.m2))) (fun x W => SV W (.slice (some ⟨x.g, 0, none⟩) 4 x.n) [(1, 3), (1, 1), (2, 2), (1, 2)] ∧ SV W (.slice x.a2 1 x.n2) [(1, 3)] ∧ SV W (.slice x.b2 1 x.m2) [(2, 2)] ∧ SV W (.slice a2 1 n2) [(1, 2)] ∧ SV W (.slice b2 1 m2) [(1, 4)] ∧ Sb2 g1 h1 (.slice a2 1 n2) (.slice b2 1 m2) (.slice none 0 0) (.slice none 0 0) W ∧ Below w0.heap.size w0 W) (fun x W hpre => ?_) (fun key => ?_)
      · obtain ⟨p19, g19, n19, q19, a20, n20, b20, m20⟩ := x
        clear HX2 HY2 HSb HB
        simp only at hpre
        obtain ⟨h0, h1, h2, h3, h4, h5, h6⟩ := hpre
        have HV19 := Lib.hid h0
        have HX20 := Lib.hid h1
        have HY20 := Lib.hid h2
        have HX2 := Lib.hid h3
        have HY2 := Lib.hid h4
        have HSb := Lib.hid h5
        have HB := Lib.hid h6
        clear h0 h1 h2 h3 h4 h5 h6
        simp only [Act.put, List.setIfInBounds_toArray, List.set_cons_zero, List.set_cons_succ]
        generalize W = w126 at *
        refine Sch2.go_on (.one 4 (.take 5 (.take 6 (.take 7 (.two 8 (.two 9 (.one 10 (.one 11 (.rest 19 [true, true, true, true, true, true, true, true, true, true, true, true, false, false, false, false, false, false, false, false, false, false, false, false, false, false, false, false, false, false, false]))) 10 (.one 9 (.one 11 (.rest 19 [true, true, true, true, true, true, true, true, true, true, true, true, false, false, false, false, false, false, false, false, false, false, false, false, false, false, false, false, false, false, false])))) 10 (.one 8 (.one 9 (.one 11 (.rest 19 [true, true, true, true, true, true, true, true, true, true, true, true, false, false, false, false, false, false, false, false, false, false, false, false, false, false, false, false, false, false, false]))))))))) 27 [true, true, true, true, false, false, false, false, false, false, false, false, false, false, false, false, false, false, false, false, false, false, false, false, false, false, false, false, false, false, false] (by kernel_rfl) rfl (by kernel_rfl) HSb.out ?_
        refine Sch2.tree_e2 rfl rfl (fun K hK => ?_)
        go_wp2_with fail
        refine (made_true [(1, 3), (1, 1), (2, 2), (1, 2)] (some ⟨g19, 0, none⟩) n19 (.slice a20 1 n20) (.slice b20 1 m20) ([(1, 3)], [(2, 2)]) 0 _ (SV.r HV19.out).1 (by decide) HX20.out HY20.out (by decide) ex12).mono ?_
        rintro e w127 ⟨rfl, hb⟩
        replace HV19 := Lib.hid (HV19.out.keep hb)
        replace HX20 := Lib.hid (HX20.out.keep hb)
        replace HY20 := Lib.hid (HY20.out.keep hb)
        replace HX2 := Lib.hid (HX2.out.keep hb)
        replace HY2 := Lib.hid (HY2.out.keep hb)
        replace HSb := Lib.hid (HSb.out.keep hb)
        replace HB := bel_tr HB hb
        clear hb
        refine hK _ _ HSb.out ?_
        clear hK K
        clear HV19 HX20 HY20
        refine Sch2.tree_q2 rfl rfl (fun K hK => ?_)
        go_big_quiet_op
        first | refine hK _ ?_ | refine ⟨_, fun _ _ => rfl, hK _ ?_⟩
        clear hK K
        refine Sch2.tree_q2 rfl rfl (fun K hK => ?_)
        go_big_quiet_op
        first | refine hK _ ?_ | refine ⟨_, fun _ _ => rfl, hK _ ?_⟩
        clear hK K
        refine Sch2.tree_load2 _ _ _ _ _ rfl rfl rfl rfl (by first | exact Sb2.la | exact Sb2.l) rfl ?_
        simp only [Act.put, List.setIfInBounds_toArray, List.set_cons_zero, List.set_cons_succ]
        refine Sch2.share 19 [true, true, true, true, true, true, true, true, true, true, true, true, false, false, false, false, false, false, false, false, false, false, false, false, false, false, false, false, false, false, false] (fun (x : Ph) A => (((A.put (some 91) (.slice (some ⟨x.p, 0, none⟩) 2 2)).put (some 92) (.slice (some ⟨x.g, 0, none⟩) 1 x.n)).put (some 93) (.slice (some ⟨x.q, 0, none⟩) 2 2)).put (some 94) (cv (.slice x.a2 1 x.n2) (.slice x.b2 0 x.m2))) (fun x W => SV W (.slice (some ⟨x.g, 0, none⟩) 1 x.n) [(1, 3)] ∧ SV W (.slice x.a2 1 x.n2) [(1, 4)] ∧ SV W (.slice x.b2 0 x.m2) [] ∧ SV W (.slice a2 1 n2) [(1, 2)] ∧ SV W (.slice b2 1 m2) [(1, 4)] ∧ Sb2 g1 h1 (.slice a2 1 n2) (.slice b2 1 m2) (.slice none 0 0) (.slice none 0 0) W ∧ Below w0.heap.size w0 W) (fun x W hpre => ?_) (fun key => ?_)
        · obtain ⟨p21, g21, n21, q21, a22, n22, b22, m22⟩ := x
          clear HX2 HY2 HSb HB
          simp only at hpre
          obtain ⟨h0, h1, h2, h3, h4, h5, h6⟩ := hpre
          have HV21 := Lib.hid h0
          have HX22 := Lib.hid h1
          have HY22 := Lib.hid h2
          have HX2 := Lib.hid h3
          have HY2 := Lib.hid h4
          have HSb := Lib.hid h5
          have HB := Lib.hid h6
          clear h0 h1 h2 h3 h4 h5 h6
          simp only [Act.put, List.setIfInBounds_toArray, List.set_cons_zero, List.set_cons_succ]
          generalize W = w128 at *
          refine Sch2.go_on (.one 12 (.take 13 (.take 14 (.take 15 (.take 16 (.two 17 (.two 18 (.one 19 (.one 20 (.rest 10 [true, true, true, true, true, true, true, true, true, true, true, true, true, true, true, true, true, true, true, true, true, false, false, false, false, false, false, false, false, false, false]))) 19 (.one 18 (.one 20 (.rest 10 [true, true, true, true, true, true, true, true, true, true, true, true, true, true, true, true, true, true, true, true, true, false, false, false, false, false, false, false, false, false, false])))) 19 (.one 17 (.one 18 (.one 20 (.rest 10 [true, true, true, true, true, true, true, true, true, true, true, true, true, true, true, true, true, true, true, true, true, false, false, false, false, false, false, false, false, false, false])))))))))) 19 [true, true, true, true, true, true, true, true, true, true, true, true, false, false, false, false, false, false, false, false, false, false, false, false, false, false, false, false, false, false, false] (by kernel_rfl) rfl (by kernel_rfl) HSb.out ?_
          refine Sch2.tree_e2 rfl rfl (fun K hK => ?_)
          go_wp2_with fail
          refine (added_true [(1, 2)] [(1, 4)] a2 b2 n2 m2 [(1, 3)] (some ⟨g21, 0, none⟩) n21 (.slice a22 1 n22) (.slice b22 0 m22) ([(1, 4)], []) 0 _ (SV.r HX2.out).1 (SV.r HY2.out).1 (SV.r HV21.out).1 (SV.r HX2.out).2.1 (SV.r HY2.out).2.1 (by decide) (by decide) (by decide) HX22.out HY22.out (by decide) ex13).mono ?_
          rintro e w129 ⟨rfl, hb⟩
          replace HV21 := Lib.hid (HV21.out.keep hb)
          replace HX22 := Lib.hid (HX22.out.keep hb)
          replace HY22 := Lib.hid (HY22.out.keep hb)
          replace HX2 := Lib.hid (HX2.out.keep hb)
          replace HY2 := Lib.hid (HY2.out.keep hb)
          replace HSb := Lib.hid (HSb.out.keep hb)
          replace HB := bel_tr HB hb
          clear hb
          refine hK _ _ HSb.out ?_
          clear hK K
          clear HV21 HX22 HY22
          refine Sch2.tree_q2 rfl rfl (fun K hK => ?_)
          go_big_quiet_op
          first | refine hK _ ?_ | refine ⟨_, fun _ _ => rfl, hK _ ?_⟩
          clear hK K
          refine Sch2.tree_q2 rfl rfl (fun K hK => ?_)
          go_big_quiet_op
          first | refine hK _ ?_ | refine ⟨_, fun _ _ => rfl, hK _ ?_⟩
          clear hK K
          refine Sch2.tree_q2 rfl rfl (fun K hK => ?_)
          go_big_quiet_op
          first | refine hK _ ?_ | refine ⟨_, fun _ _ => rfl, hK _ ?_⟩
          clear hK K
          refine Sch2.tree_load2 _ _ _ _ _ rfl rfl rfl rfl (by first | exact Sb2.la | exact Sb2.l) rfl ?_
          simp only [Act.put, List.setIfInBounds_toArray, List.set_cons_zero, List.set_cons_succ]
          refine Sch2.share 10 [true, true, true, true, true, true, true, true, true, true, true, true, true, true, true, true, true, true, true, true, true, false, false, false, false, false, false, false, false, false, false] (fun (x : Ph2) A => (((A.put (some 100) (.slice (some ⟨x.p, 0, none⟩) 6 6)).put (some 101) (cv (.slice x.a1 1 x.n1) (.slice x.b1 2 x.m1))).put (some 102) (.slice (some ⟨x.q, 0, none⟩) 4 4)).put (some 103) (cv (.slice x.a2 1 x.n2) (.slice x.b2 1 x.m2))) (fun x W => SV W (.slice x.a1 1 x.n1) [(1, 1)] ∧ SV W (.slice x.b1 2 x.m1) [(2, 2), (1, 3)] ∧ SV W (.slice x.a2 1 x.n2) [(1, 4)] ∧ SV W (.slice x.b2 1 x.m2) [(2, 2)] ∧ SV W (.slice a2 1 n2) [(1, 2)] ∧ SV W (.slice b2 1 m2) [(1, 4)] ∧ Sb2 g1 h1 (.slice a2 1 n2) (.slice b2 1 m2) (.slice none 0 0) (.slice none 0 0) W ∧ Below w0.heap.size w0 W) (fun x W hpre => ?_) (fun key => ?_)
          · obtain ⟨p23, a23, n23, b23, m23, q23, a24, n24, b24, m24⟩ := x
            clear HX2 HY2 HSb HB
            simp only at hpre
            obtain ⟨h0, h1, h2, h3, h4, h5, h6, h7⟩ := hpre
            have HX23 := Lib.hid h0
            have HY23 := Lib.hid h1
            have HX24 := Lib.hid h2
            have HY24 := Lib.hid h3
            have HX2 := Lib.hid h4
            have HY2 := Lib.hid h5
            have HSb := Lib.hid h6
            have HB := Lib.hid h7
            clear h0 h1 h2 h3 h4 h5 h6 h7
            simp only [Act.put, List.setIfInBounds_toArray, List.set_cons_zero, List.set_cons_succ]
            generalize W = w130 at *
            refine Sch2.go_on (.one 21 (.take 22 (.take 23 (.take 24 (.take 27 (.one 25 (.one 26 (.one 28 (.take 29 (.take 30 .done)))))))))) 10 [true, true, true, true, true, true, true, true, true, true, true, true, true, true, true, true, true, true, true, true, true, false, false, false, false, false, false, false, false, false, false] (by kernel_rfl) rfl (by kernel_rfl) HSb.out ?_
            refine Sch2.tree_e2 rfl rfl (fun K hK => ?_)
            go_wp2_with fail
            refine (united_true [(1, 2)] [(1, 4)] a2 b2 n2 m2 [(1, 1)] [(2, 2), (1, 3)] a23 b23 n23 m23 (.slice a24 1 n24) (.slice b24 1 m24) ([(1, 4)], [(2, 2)]) 0 _ (SV.r HX2.out).1 (SV.r HY2.out).1 (SV.r HX23.out).1 (SV.r HY23.out).1 (SV.r HX2.out).2.1 (SV.r HY2.out).2.1 (SV.r HX23.out).2.1 (SV.r HY23.out).2.1 (by decide) (by decide) (by decide) (by decide) HX24.out HY24.out (by decide) ex14).mono ?_
            rintro e w131 ⟨rfl, hb⟩
            replace HX23 := Lib.hid (HX23.out.keep hb)
            replace HY23 := Lib.hid (HY23.out.keep hb)
            replace HX24 := Lib.hid (HX24.out.keep hb)
            replace HY24 := Lib.hid (HY24.out.keep hb)
            replace HX2 := Lib.hid (HX2.out.keep hb)
            replace HY2 := Lib.hid (HY2.out.keep hb)
            replace HSb := Lib.hid (HSb.out.keep hb)
            replace HB := bel_tr HB hb
            clear hb
            refine hK _ _ HSb.out ?_
            clear hK K
            clear HX23 HY23 HX24 HY24
            refine Sch2.tree_q2 rfl rfl (fun K hK => ?_)
            go_big_quiet_op
            first | refine hK _ ?_ | refine ⟨_, fun _ _ => rfl, hK _ ?_⟩
            clear hK K
            refine Sch2.tree_q2 rfl rfl (fun K hK => ?_)
            go_big_quiet_op
            first | refine hK _ ?_ | refine ⟨_, fun _ _ => rfl, hK _ ?_⟩
            clear hK K
            refine Sch2.tree_q2 rfl rfl (fun K hK => ?_)
            go_big_quiet_op
            first | refine hK _ ?_ | refine ⟨_, fun _ _ => rfl, hK _ ?_⟩
            clear hK K
            refine Sch2.tree_load2 _ _ _ _ _ rfl rfl rfl rfl (by first | exact Sb2.la | exact Sb2.l) rfl ?_
            simp only [Act.put, List.setIfInBounds_toArray, List.set_cons_zero, List.set_cons_succ]
            have HR25 := Lib.hid (RowD.lit w131 [(0, 1)] #[.int .i64 0, .int .i64 1] 3 (0, 0) rfl)
            have hb := bel_box w131 (.cells #[.int .i64 0, .int .i64 1] 3)
            replace HX2 := Lib.hid (HX2.out.keep hb)
            replace HY2 := Lib.hid (HY2.out.keep hb)
            replace HSb := Lib.hid (HSb.out.keep hb)
            replace HB := bel_tr HB hb
            clear hb
            refine Sch2.tree_e2 rfl rfl (fun K hK => ?_)
            go_wp2_with fail
            refine hK _ _ HSb.out ?_
            clear hK K
            generalize w131.alloc (.cells #[.int .i64 0, .int .i64 1] 3) = w132 at *
            refine Sch2.tree_e2 rfl rfl (fun K hK => ?_)
            go_wp2_with fail
            refine (of_list [(0, 1)] (some ⟨w131.heap.size, 0, none⟩) 2 _ HR25.out (by decide)).mono ?_
            rintro e w133 ⟨v, rfl, ho, hb⟩
            replace HX2 := Lib.hid (HX2.out.keep hb)
            replace HY2 := Lib.hid (HY2.out.keep hb)
            replace HSb := Lib.hid (HSb.out.keep hb)
            replace HR25 := Lib.hid (HR25.out.keep hb)
            replace HB := bel_tr HB hb
            clear hb
            obtain ⟨g26, n26, rfl, hsv⟩ := od_first ho (by simp)
            have HV26 : Hid (SV w133 (.slice (some ⟨g26, 0, none⟩) 1 n26) [(0, 1)]) := hsv
            clear ho hsv
            refine hK _ _ HSb.out ?_
            clear hK K
            clear HR25
            refine Sch2.tree_e2 rfl rfl (fun K hK => ?_)
            go_wp2_with fail
            refine (made_true [(0, 1)] (some ⟨g26, 0, none⟩) n26 (.slice none 0 0) (.slice none 0 0) ([], []) 2 _ (SV.r HV26.out).1 (by decide) (SV.nil _) (SV.nil _) (by decide) ex15).mono ?_
            rintro e w134 ⟨rfl, hb⟩
            replace HX2 := Lib.hid (HX2.out.keep hb)
            replace HY2 := Lib.hid (HY2.out.keep hb)
            replace HSb := Lib.hid (HSb.out.keep hb)
            replace HV26 := Lib.hid (HV26.out.keep hb)
            replace HB := bel_tr HB hb
            clear hb
            refine hK _ _ HSb.out ?_
            clear hK K
            clear HV26
            refine Sch2.tree_q2 rfl rfl (fun K hK => ?_)
            go_big_quiet_op
            first | refine hK _ ?_ | refine ⟨_, fun _ _ => rfl, hK _ ?_⟩
            clear hK K
            refine Sch2.tree_q2 rfl rfl (fun K hK => ?_)
            go_big_quiet_op
            first | refine hK _ ?_ | refine ⟨_, fun _ _ => rfl, hK _ ?_⟩
            clear hK K
            refine Sch2.tree_n2 ?_
            go_wp2_with fail
            go_meet
            case rel => exact ⟨rfl, HX2, HY2, HSb, HB⟩
          · refine Sch2.tree_two2 ?_ ?_
            · have HR23 := Lib.hid (RowD.lit w129 [(1, 1), (2, 2), (1, 3)] #[.int .i64 1, .int .i64 1, .int .i64 2, .int .i64 2, .int .i64 1, .int .i64 3] 3 (0, 0) rfl)
              have hb := bel_box w129 (.cells #[.int .i64 1, .int .i64 1, .int .i64 2, .int .i64 2, .int .i64 1, .int .i64 3] 3)
              replace HX2 := Lib.hid (HX2.out.keep hb)
              replace HY2 := Lib.hid (HY2.out.keep hb)
              replace HSb := Lib.hid (HSb.out.keep hb)
              replace HB := bel_tr HB hb
              clear hb
              refine Sch2.tree_e2 rfl rfl (fun K hK => ?_)
              go_wp2_with fail
              refine hK _ _ HSb.out ?_
              clear hK K
              generalize w129.alloc (.cells #[.int .i64 1, .int .i64 1, .int .i64 2, .int .i64 2, .int .i64 1, .int .i64 3] 3) = w130 at *
              refine Sch2.tree_two2 ?_ ?_
              · refine Sch2.tree_e2 rfl rfl (fun K hK => ?_)
                go_wp2_with fail
                refine (con_any 1 [(1, 1), (2, 2), (1, 3)] (some ⟨w129.heap.size, 0, none⟩) 6 _ HR23.out (by decide) (by decide)).mono ?_
                rintro e w131 ⟨x, y, rfl, hsx, hsy, hb⟩
                replace HX2 := Lib.hid (HX2.out.keep hb)
                replace HY2 := Lib.hid (HY2.out.keep hb)
                replace HSb := Lib.hid (HSb.out.keep hb)
                replace HR23 := Lib.hid (HR23.out.keep hb)
                replace HB := bel_tr HB hb
                clear hb
                obtain ⟨a24, n24, rfl, -⟩ := SV.sh hsx
                obtain ⟨b24, m24, rfl, -⟩ := SV.sh hsy
                have HX24 : Hid (SV w131 (.slice a24 1 n24) [(1, 1)]) := hsx
                have HY24 : Hid (SV w131 (.slice b24 2 m24) [(2, 2), (1, 3)]) := hsy
                clear hsx hsy
                refine hK _ _ HSb.out ?_
                clear hK K
                clear HR23
                have HR25 := Lib.hid (RowD.lit w131 [(1, 4), (2, 2)] #[.int .i64 1, .int .i64 4, .int .i64 2, .int .i64 2] 3 (0, 0) rfl)
                have hb := bel_box w131 (.cells #[.int .i64 1, .int .i64 4, .int .i64 2, .int .i64 2] 3)
                replace HX2 := Lib.hid (HX2.out.keep hb)
                replace HY2 := Lib.hid (HY2.out.keep hb)
                replace HSb := Lib.hid (HSb.out.keep hb)
                replace HX24 := Lib.hid (HX24.out.keep hb)
                replace HY24 := Lib.hid (HY24.out.keep hb)
                replace HB := bel_tr HB hb
                clear hb
                refine Sch2.tree_e2 rfl rfl (fun K hK => ?_)
                go_wp2_with fail
                refine hK _ _ HSb.out ?_
                clear hK K
                generalize w131.alloc (.cells #[.int .i64 1, .int .i64 4, .int .i64 2, .int .i64 2] 3) = w132 at *
                refine Sch2.tree_e2 rfl rfl (fun K hK => ?_)
                go_wp2_with fail
                refine (con_any 1 [(1, 4), (2, 2)] (some ⟨w131.heap.size, 0, none⟩) 4 _ HR25.out (by decide) (by decide)).mono ?_
                rintro e w133 ⟨x, y, rfl, hsx, hsy, hb⟩
                replace HX2 := Lib.hid (HX2.out.keep hb)
                replace HY2 := Lib.hid (HY2.out.keep hb)
                replace HSb := Lib.hid (HSb.out.keep hb)
                replace HX24 := Lib.hid (HX24.out.keep hb)
                replace HY24 := Lib.hid (HY24.out.keep hb)
                replace HR25 := Lib.hid (HR25.out.keep hb)
                replace HB := bel_tr HB hb
                clear hb
                obtain ⟨a26, n26, rfl, -⟩ := SV.sh hsx
                obtain ⟨b26, m26, rfl, -⟩ := SV.sh hsy
                have HX26 : Hid (SV w133 (.slice a26 1 n26) [(1, 4)]) := hsx
                have HY26 : Hid (SV w133 (.slice b26 1 m26) [(2, 2)]) := hsy
                clear hsx hsy
                refine hK _ _ HSb.out ?_
                clear hK K
                clear HR25
                have k := key ⟨w129.heap.size, a24, n24, b24, m24, w131.heap.size, a26, n26, b26, m26⟩ w133 ⟨HX24.out, HY24.out, HX26.out, HY26.out, HX2.out, HY2.out, HSb.out, HB.out⟩
                simp only [Act.put, List.setIfInBounds_toArray, List.set_cons_zero, List.set_cons_succ] at k
                exact k
              · have HR24 := Lib.hid (RowD.lit w130 [(1, 4), (2, 2)] #[.int .i64 1, .int .i64 4, .int .i64 2, .int .i64 2] 3 (0, 0) rfl)
                have hb := bel_box w130 (.cells #[.int .i64 1, .int .i64 4, .int .i64 2, .int .i64 2] 3)
                replace HX2 := Lib.hid (HX2.out.keep hb)
                replace HY2 := Lib.hid (HY2.out.keep hb)
                replace HSb := Lib.hid (HSb.out.keep hb)
                replace HR23 := Lib.hid (HR23.out.keep hb)
                replace HB := bel_tr HB hb
                clear hb
                refine Sch2.tree_e2 rfl rfl (fun K hK => ?_)
                go_wp2_with fail
                refine hK _ _ HSb.out ?_
                clear hK K
                generalize w130.alloc (.cells #[.int .i64 1, .int .i64 4, .int .i64 2, .int .i64 2] 3) = w131 at *
                refine Sch2.tree_e2 rfl rfl (fun K hK => ?_)
                go_wp2_with fail
                refine (con_any 1 [(1, 1), (2, 2), (1, 3)] (some ⟨w129.heap.size, 0, none⟩) 6 _ HR23.out (by decide) (by decide)).mono ?_
                rintro e w132 ⟨x, y, rfl, hsx, hsy, hb⟩
                replace HX2 := Lib.hid (HX2.out.keep hb)
                replace HY2 := Lib.hid (HY2.out.keep hb)
                replace HSb := Lib.hid (HSb.out.keep hb)
                replace HR23 := Lib.hid (HR23.out.keep hb)
                replace HR24 := Lib.hid (HR24.out.keep hb)
                replace HB := bel_tr HB hb
                clear hb
                obtain ⟨a25, n25, rfl, -⟩ := SV.sh hsx
                obtain ⟨b25, m25, rfl, -⟩ := SV.sh hsy
                have HX25 : Hid (SV w132 (.slice a25 1 n25) [(1, 1)]) := hsx
                have HY25 : Hid (SV w132 (.slice b25 2 m25) [(2, 2), (1, 3)]) := hsy
                clear hsx hsy
                refine hK _ _ HSb.out ?_
                clear hK K
                clear HR23
                refine Sch2.tree_e2 rfl rfl (fun K hK => ?_)
                go_wp2_with fail
                refine (con_any 1 [(1, 4), (2, 2)] (some ⟨w130.heap.size, 0, none⟩) 4 _ HR24.out (by decide) (by decide)).mono ?_
                rintro e w133 ⟨x, y, rfl, hsx, hsy, hb⟩
                replace HX2 := Lib.hid (HX2.out.keep hb)
                replace HY2 := Lib.hid (HY2.out.keep hb)
                replace HSb := Lib.hid (HSb.out.keep hb)
                replace HR24 := Lib.hid (HR24.out.keep hb)
                replace HX25 := Lib.hid (HX25.out.keep hb)
                replace HY25 := Lib.hid (HY25.out.keep hb)
                replace HB := bel_tr HB hb
                clear hb
                obtain ⟨a26, n26, rfl, -⟩ := SV.sh hsx
                obtain ⟨b26, m26, rfl, -⟩ := SV.sh hsy
                have HX26 : Hid (SV w133 (.slice a26 1 n26) [(1, 4)]) := hsx
                have HY26 : Hid (SV w133 (.slice b26 1 m26) [(2, 2)]) := hsy
                clear hsx hsy
                refine hK _ _ HSb.out ?_
                clear hK K
                clear HR24
                have k := key ⟨w129.heap.size, a25, n25, b25, m25, w130.heap.size, a26, n26, b26, m26⟩ w133 ⟨HX25.out, HY25.out, HX26.out, HY26.out, HX2.out, HY2.out, HSb.out, HB.out⟩
                simp only [Act.put, List.setIfInBounds_toArray, List.set_cons_zero, List.set_cons_succ] at k
                exact k
            · have HR23 := Lib.hid (RowD.lit w129 [(1, 4), (2, 2)] #[.int .i64 1, .int .i64 4, .int .i64 2, .int .i64 2] 3 (0, 0) rfl)
              have hb := bel_box w129 (.cells #[.int .i64 1, .int .i64 4, .int .i64 2, .int .i64 2] 3)
              replace HX2 := Lib.hid (HX2.out.keep hb)
              replace HY2 := Lib.hid (HY2.out.keep hb)
              replace HSb := Lib.hid (HSb.out.keep hb)
              replace HB := bel_tr HB hb
              clear hb
              refine Sch2.tree_e2 rfl rfl (fun K hK => ?_)
              go_wp2_with fail
              refine hK _ _ HSb.out ?_
              clear hK K
              generalize w129.alloc (.cells #[.int .i64 1, .int .i64 4, .int .i64 2, .int .i64 2] 3) = w130 at *
              have HR24 := Lib.hid (RowD.lit w130 [(1, 1), (2, 2), (1, 3)] #[.int .i64 1, .int .i64 1, .int .i64 2, .int .i64 2, .int .i64 1, .int .i64 3] 3 (0, 0) rfl)
              have hb := bel_box w130 (.cells #[.int .i64 1, .int .i64 1, .int .i64 2, .int .i64 2, .int .i64 1, .int .i64 3] 3)
              replace HX2 := Lib.hid (HX2.out.keep hb)
              replace HY2 := Lib.hid (HY2.out.keep hb)
              replace HSb := Lib.hid (HSb.out.keep hb)
              replace HR23 := Lib.hid (HR23.out.keep hb)
              replace HB := bel_tr HB hb
              clear hb
              refine Sch2.tree_e2 rfl rfl (fun K hK => ?_)
              go_wp2_with fail
              refine hK _ _ HSb.out ?_
              clear hK K
              generalize w130.alloc (.cells #[.int .i64 1, .int .i64 1, .int .i64 2, .int .i64 2, .int .i64 1, .int .i64 3] 3) = w131 at *
              refine Sch2.tree_e2 rfl rfl (fun K hK => ?_)
              go_wp2_with fail
              refine (con_any 1 [(1, 1), (2, 2), (1, 3)] (some ⟨w130.heap.size, 0, none⟩) 6 _ HR24.out (by decide) (by decide)).mono ?_
              rintro e w132 ⟨x, y, rfl, hsx, hsy, hb⟩
              replace HX2 := Lib.hid (HX2.out.keep hb)
              replace HY2 := Lib.hid (HY2.out.keep hb)
              replace HSb := Lib.hid (HSb.out.keep hb)
              replace HR23 := Lib.hid (HR23.out.keep hb)
              replace HR24 := Lib.hid (HR24.out.keep hb)
              replace HB := bel_tr HB hb
              clear hb
              obtain ⟨a25, n25, rfl, -⟩ := SV.sh hsx
              obtain ⟨b25, m25, rfl, -⟩ := SV.sh hsy
              have HX25 : Hid (SV w132 (.slice a25 1 n25) [(1, 1)]) := hsx
              have HY25 : Hid (SV w132 (.slice b25 2 m25) [(2, 2), (1, 3)]) := hsy
              clear hsx hsy
              refine hK _ _ HSb.out ?_
              clear hK K
              clear HR24
              refine Sch2.tree_e2 rfl rfl (fun K hK => ?_)
              go_wp2_with fail
              refine (con_any 1 [(1, 4), (2, 2)] (some ⟨w129.heap.size, 0, none⟩) 4 _ HR23.out (by decide) (by decide)).mono ?_
              rintro e w133 ⟨x, y, rfl, hsx, hsy, hb⟩
              replace HX2 := Lib.hid (HX2.out.keep hb)
              replace HY2 := Lib.hid (HY2.out.keep hb)
              replace HSb := Lib.hid (HSb.out.keep hb)
              replace HR23 := Lib.hid (HR23.out.keep hb)
              replace HX25 := Lib.hid (HX25.out.keep hb)
              replace HY25 := Lib.hid (HY25.out.keep hb)
              replace HB := bel_tr HB hb
              clear hb
              obtain ⟨a26, n26, rfl, -⟩ := SV.sh hsx
              obtain ⟨b26, m26, rfl, -⟩ := SV.sh hsy
              have HX26 : Hid (SV w133 (.slice a26 1 n26) [(1, 4)]) := hsx
              have HY26 : Hid (SV w133 (.slice b26 1 m26) [(2, 2)]) := hsy
              clear hsx hsy
              refine hK _ _ HSb.out ?_
              clear hK K
              clear HR23
              have k := key ⟨w130.heap.size, a25, n25, b25, m25, w129.heap.size, a26, n26, b26, m26⟩ w133 ⟨HX25.out, HY25.out, HX26.out, HY26.out, HX2.out, HY2.out, HSb.out, HB.out⟩
              simp only [Act.put, List.setIfInBounds_toArray, List.set_cons_zero, List.set_cons_succ] at k
              exact k
        · refine Sch2.tree_two2 ?_ ?_
          · have HR21 := Lib.hid (RowD.lit w127 [(1, 3)] #[.int .i64 1, .int .i64 3] 3 (0, 0) rfl)
            have hb := bel_box w127 (.cells #[.int .i64 1, .int .i64 3] 3)
            replace HX2 := Lib.hid (HX2.out.keep hb)
            replace HY2 := Lib.hid (HY2.out.keep hb)
            replace HSb := Lib.hid (HSb.out.keep hb)
            replace HB := bel_tr HB hb
            clear hb
            refine Sch2.tree_e2 rfl rfl (fun K hK => ?_)
            go_wp2_with fail
            refine hK _ _ HSb.out ?_
            clear hK K
            generalize w127.alloc (.cells #[.int .i64 1, .int .i64 3] 3) = w128 at *
            refine Sch2.tree_two2 ?_ ?_
            · refine Sch2.tree_e2 rfl rfl (fun K hK => ?_)
              go_wp2_with fail
              refine (of_list [(1, 3)] (some ⟨w127.heap.size, 0, none⟩) 2 _ HR21.out (by decide)).mono ?_
              rintro e w129 ⟨v, rfl, ho, hb⟩
              replace HX2 := Lib.hid (HX2.out.keep hb)
              replace HY2 := Lib.hid (HY2.out.keep hb)
              replace HSb := Lib.hid (HSb.out.keep hb)
              replace HR21 := Lib.hid (HR21.out.keep hb)
              replace HB := bel_tr HB hb
              clear hb
              obtain ⟨g22, n22, rfl, hsv⟩ := od_first ho (by simp)
              have HV22 : Hid (SV w129 (.slice (some ⟨g22, 0, none⟩) 1 n22) [(1, 3)]) := hsv
              clear ho hsv
              refine hK _ _ HSb.out ?_
              clear hK K
              clear HR21
              have HR23 := Lib.hid (RowD.lit w129 [(1, 4)] #[.int .i64 1, .int .i64 4] 3 (0, 0) rfl)
              have hb := bel_box w129 (.cells #[.int .i64 1, .int .i64 4] 3)
              replace HX2 := Lib.hid (HX2.out.keep hb)
              replace HY2 := Lib.hid (HY2.out.keep hb)
              replace HSb := Lib.hid (HSb.out.keep hb)
              replace HV22 := Lib.hid (HV22.out.keep hb)
              replace HB := bel_tr HB hb
              clear hb
              refine Sch2.tree_e2 rfl rfl (fun K hK => ?_)
              go_wp2_with fail
              refine hK _ _ HSb.out ?_
              clear hK K
              generalize w129.alloc (.cells #[.int .i64 1, .int .i64 4] 3) = w130 at *
              refine Sch2.tree_e2 rfl rfl (fun K hK => ?_)
              go_wp2_with fail
              refine (con_any 1 [(1, 4)] (some ⟨w129.heap.size, 0, none⟩) 2 _ HR23.out (by decide) (by decide)).mono ?_
              rintro e w131 ⟨x, y, rfl, hsx, hsy, hb⟩
              replace HX2 := Lib.hid (HX2.out.keep hb)
              replace HY2 := Lib.hid (HY2.out.keep hb)
              replace HSb := Lib.hid (HSb.out.keep hb)
              replace HV22 := Lib.hid (HV22.out.keep hb)
              replace HR23 := Lib.hid (HR23.out.keep hb)
              replace HB := bel_tr HB hb
              clear hb
              obtain ⟨a24, n24, rfl, -⟩ := SV.sh hsx
              obtain ⟨b24, m24, rfl, -⟩ := SV.sh hsy
              have HX24 : Hid (SV w131 (.slice a24 1 n24) [(1, 4)]) := hsx
              have HY24 : Hid (SV w131 (.slice b24 0 m24) []) := hsy
              clear hsx hsy
              refine hK _ _ HSb.out ?_
              clear hK K
              clear HR23
              have k := key ⟨w127.heap.size, g22, n22, w129.heap.size, a24, n24, b24, m24⟩ w131 ⟨HV22.out, HX24.out, HY24.out, HX2.out, HY2.out, HSb.out, HB.out⟩
              simp only [Act.put, List.setIfInBounds_toArray, List.set_cons_zero, List.set_cons_succ] at k
              exact k
            · have HR22 := Lib.hid (RowD.lit w128 [(1, 4)] #[.int .i64 1, .int .i64 4] 3 (0, 0) rfl)
              have hb := bel_box w128 (.cells #[.int .i64 1, .int .i64 4] 3)
              replace HX2 := Lib.hid (HX2.out.keep hb)
              replace HY2 := Lib.hid (HY2.out.keep hb)
              replace HSb := Lib.hid (HSb.out.keep hb)
              replace HR21 := Lib.hid (HR21.out.keep hb)
              replace HB := bel_tr HB hb
              clear hb
              refine Sch2.tree_e2 rfl rfl (fun K hK => ?_)
              go_wp2_with fail
              refine hK _ _ HSb.out ?_
              clear hK K
              generalize w128.alloc (.cells #[.int .i64 1, .int .i64 4] 3) = w129 at *
              refine Sch2.tree_e2 rfl rfl (fun K hK => ?_)
              go_wp2_with fail
              refine (of_list [(1, 3)] (some ⟨w127.heap.size, 0, none⟩) 2 _ HR21.out (by decide)).mono ?_
              rintro e w130 ⟨v, rfl, ho, hb⟩
              replace HX2 := Lib.hid (HX2.out.keep hb)
              replace HY2 := Lib.hid (HY2.out.keep hb)
              replace HSb := Lib.hid (HSb.out.keep hb)
              replace HR21 := Lib.hid (HR21.out.keep hb)
              replace HR22 := Lib.hid (HR22.out.keep hb)
              replace HB := bel_tr HB hb
              clear hb
              obtain ⟨g23, n23, rfl, hsv⟩ := od_first ho (by simp)
              have HV23 : Hid (SV w130 (.slice (some ⟨g23, 0, none⟩) 1 n23) [(1, 3)]) := hsv
              clear ho hsv
              refine hK _ _ HSb.out ?_
              clear hK K
              clear HR21
              refine Sch2.tree_e2 rfl rfl (fun K hK => ?_)
              go_wp2_with fail
              refine (con_any 1 [(1, 4)] (some ⟨w128.heap.size, 0, none⟩) 2 _ HR22.out (by decide) (by decide)).mono ?_
              rintro e w131 ⟨x, y, rfl, hsx, hsy, hb⟩
              replace HX2 := Lib.hid (HX2.out.keep hb)
              replace HY2 := Lib.hid (HY2.out.keep hb)
              replace HSb := Lib.hid (HSb.out.keep hb)
              replace HR22 := Lib.hid (HR22.out.keep hb)
              replace HV23 := Lib.hid (HV23.out.keep hb)
              replace HB := bel_tr HB hb
              clear hb
              obtain ⟨a24, n24, rfl, -⟩ := SV.sh hsx
              obtain ⟨b24, m24, rfl, -⟩ := SV.sh hsy
              have HX24 : Hid (SV w131 (.slice a24 1 n24) [(1, 4)]) := hsx
              have HY24 : Hid (SV w131 (.slice b24 0 m24) []) := hsy
              clear hsx hsy
              refine hK _ _ HSb.out ?_
              clear hK K
              clear HR22
              have k := key ⟨w127.heap.size, g23, n23, w128.heap.size, a24, n24, b24, m24⟩ w131 ⟨HV23.out, HX24.out, HY24.out, HX2.out, HY2.out, HSb.out, HB.out⟩
              simp only [Act.put, List.setIfInBounds_toArray, List.set_cons_zero, List.set_cons_succ] at k
              exact k
          · have HR21 := Lib.hid (RowD.lit w127 [(1, 4)] #[.int .i64 1, .int .i64 4] 3 (0, 0) rfl)
            have hb := bel_box w127 (.cells #[.int .i64 1, .int .i64 4] 3)
            replace HX2 := Lib.hid (HX2.out.keep hb)
            replace HY2 := Lib.hid (HY2.out.keep hb)
            replace HSb := Lib.hid (HSb.out.keep hb)
            replace HB := bel_tr HB hb
            clear hb
            refine Sch2.tree_e2 rfl rfl (fun K hK => ?_)
            go_wp2_with fail
            refine hK _ _ HSb.out ?_
            clear hK K
            generalize w127.alloc (.cells #[.int .i64 1, .int .i64 4] 3) = w128 at *
            have HR22 := Lib.hid (RowD.lit w128 [(1, 3)] #[.int .i64 1, .int .i64 3] 3 (0, 0) rfl)
            have hb := bel_box w128 (.cells #[.int .i64 1, .int .i64 3] 3)
            replace HX2 := Lib.hid (HX2.out.keep hb)
            replace HY2 := Lib.hid (HY2.out.keep hb)
            replace HSb := Lib.hid (HSb.out.keep hb)
            replace HR21 := Lib.hid (HR21.out.keep hb)
            replace HB := bel_tr HB hb
            clear hb
            refine Sch2.tree_e2 rfl rfl (fun K hK => ?_)
            go_wp2_with fail
            refine hK _ _ HSb.out ?_
            clear hK K
            generalize w128.alloc (.cells #[.int .i64 1, .int .i64 3] 3) = w129 at *
            refine Sch2.tree_e2 rfl rfl (fun K hK => ?_)
            go_wp2_with fail
            refine (of_list [(1, 3)] (some ⟨w128.heap.size, 0, none⟩) 2 _ HR22.out (by decide)).mono ?_
            rintro e w130 ⟨v, rfl, ho, hb⟩
            replace HX2 := Lib.hid (HX2.out.keep hb)
            replace HY2 := Lib.hid (HY2.out.keep hb)
            replace HSb := Lib.hid (HSb.out.keep hb)
            replace HR21 := Lib.hid (HR21.out.keep hb)
            replace HR22 := Lib.hid (HR22.out.keep hb)
            replace HB := bel_tr HB hb
            clear hb
            obtain ⟨g23, n23, rfl, hsv⟩ := od_first ho (by simp)
            have HV23 : Hid (SV w130 (.slice (some ⟨g23, 0, none⟩) 1 n23) [(1, 3)]) := hsv
            clear ho hsv
            refine hK _ _ HSb.out ?_
            clear hK K
            clear HR22
            refine Sch2.tree_e2 rfl rfl (fun K hK => ?_)
            go_wp2_with fail
            refine (con_any 1 [(1, 4)] (some ⟨w127.heap.size, 0, none⟩) 2 _ HR21.out (by decide) (by decide)).mono ?_
            rintro e w131 ⟨x, y, rfl, hsx, hsy, hb⟩
            replace HX2 := Lib.hid (HX2.out.keep hb)
            replace HY2 := Lib.hid (HY2.out.keep hb)
            replace HSb := Lib.hid (HSb.out.keep hb)
            replace HR21 := Lib.hid (HR21.out.keep hb)
            replace HV23 := Lib.hid (HV23.out.keep hb)
            replace HB := bel_tr HB hb
            clear hb
            obtain ⟨a24, n24, rfl, -⟩ := SV.sh hsx
            obtain ⟨b24, m24, rfl, -⟩ := SV.sh hsy
            have HX24 : Hid (SV w131 (.slice a24 1 n24) [(1, 4)]) := hsx
            have HY24 : Hid (SV w131 (.slice b24 0 m24) []) := hsy
            clear hsx hsy
            refine hK _ _ HSb.out ?_
            clear hK K
            clear HR21
            have k := key ⟨w128.heap.size, g23, n23, w127.heap.size, a24, n24, b24, m24⟩ w131 ⟨HV23.out, HX24.out, HY24.out, HX2.out, HY2.out, HSb.out, HB.out⟩
            simp only [Act.put, List.setIfInBounds_toArray, List.set_cons_zero, List.set_cons_succ] at k
            exact k
      · refine Sch2.tree_two2 ?_ ?_
        · have HR19 := Lib.hid (RowD.lit w125 [(1, 3), (1, 1), (2, 2), (1, 2)] #[.int .i64 1, .int .i64 3, .int .i64 1, .int .i64 1, .int .i64 2, .int .i64 2, .int .i64 1, .int .i64 2] 3 (0, 0) rfl)
          have hb := bel_box w125 (.cells #[.int .i64 1, .int .i64 3, .int .i64 1, .int .i64 1, .int .i64 2, .int .i64 2, .int .i64 1, .int .i64 2] 3)
          replace HX2 := Lib.hid (HX2.out.keep hb)
          replace HY2 := Lib.hid (HY2.out.keep hb)
          replace HSb := Lib.hid (HSb.out.keep hb)
          replace HB := bel_tr HB hb
          clear hb
          refine Sch2.tree_e2 rfl rfl (fun K hK => ?_)
          go_wp2_with fail
          refine hK _ _ HSb.out ?_
          clear hK K
          generalize w125.alloc (.cells #[.int .i64 1, .int .i64 3, .int .i64 1, .int .i64 1, .int .i64 2, .int .i64 2, .int .i64 1, .int .i64 2] 3) = w126 at *
          refine Sch2.tree_two2 ?_ ?_
          · refine Sch2.tree_e2 rfl rfl (fun K hK => ?_)
            go_wp2_with fail
            refine (of_list [(1, 3), (1, 1), (2, 2), (1, 2)] (some ⟨w125.heap.size, 0, none⟩) 8 _ HR19.out (by decide)).mono ?_
            rintro e w127 ⟨v, rfl, ho, hb⟩
            replace HX2 := Lib.hid (HX2.out.keep hb)
            replace HY2 := Lib.hid (HY2.out.keep hb)
            replace HSb := Lib.hid (HSb.out.keep hb)
            replace HR19 := Lib.hid (HR19.out.keep hb)
            replace HB := bel_tr HB hb
            clear hb
            obtain ⟨g20, n20, rfl, hsv⟩ := od_first ho (by simp)
            have HV20 : Hid (SV w127 (.slice (some ⟨g20, 0, none⟩) 4 n20) [(1, 3), (1, 1), (2, 2), (1, 2)]) := hsv
            clear ho hsv
            refine hK _ _ HSb.out ?_
            clear hK K
            clear HR19
            have HR21 := Lib.hid (RowD.lit w127 [(1, 3), (2, 2)] #[.int .i64 1, .int .i64 3, .int .i64 2, .int .i64 2] 3 (0, 0) rfl)
            have hb := bel_box w127 (.cells #[.int .i64 1, .int .i64 3, .int .i64 2, .int .i64 2] 3)
            replace HX2 := Lib.hid (HX2.out.keep hb)
            replace HY2 := Lib.hid (HY2.out.keep hb)
            replace HSb := Lib.hid (HSb.out.keep hb)
            replace HV20 := Lib.hid (HV20.out.keep hb)
            replace HB := bel_tr HB hb
            clear hb
            refine Sch2.tree_e2 rfl rfl (fun K hK => ?_)
            go_wp2_with fail
            refine hK _ _ HSb.out ?_
            clear hK K
            generalize w127.alloc (.cells #[.int .i64 1, .int .i64 3, .int .i64 2, .int .i64 2] 3) = w128 at *
            refine Sch2.tree_e2 rfl rfl (fun K hK => ?_)
            go_wp2_with fail
            refine (con_any 1 [(1, 3), (2, 2)] (some ⟨w127.heap.size, 0, none⟩) 4 _ HR21.out (by decide) (by decide)).mono ?_
            rintro e w129 ⟨x, y, rfl, hsx, hsy, hb⟩
            replace HX2 := Lib.hid (HX2.out.keep hb)
            replace HY2 := Lib.hid (HY2.out.keep hb)
            replace HSb := Lib.hid (HSb.out.keep hb)
            replace HV20 := Lib.hid (HV20.out.keep hb)
            replace HR21 := Lib.hid (HR21.out.keep hb)
            replace HB := bel_tr HB hb
            clear hb
            obtain ⟨a22, n22, rfl, -⟩ := SV.sh hsx
            obtain ⟨b22, m22, rfl, -⟩ := SV.sh hsy
            have HX22 : Hid (SV w129 (.slice a22 1 n22) [(1, 3)]) := hsx
            have HY22 : Hid (SV w129 (.slice b22 1 m22) [(2, 2)]) := hsy
            clear hsx hsy
            refine hK _ _ HSb.out ?_
            clear hK K
            clear HR21
            have k := key ⟨w125.heap.size, g20, n20, w127.heap.size, a22, n22, b22, m22⟩ w129 ⟨HV20.out, HX22.out, HY22.out, HX2.out, HY2.out, HSb.out, HB.out⟩
            simp only [Act.put, List.setIfInBounds_toArray, List.set_cons_zero, List.set_cons_succ] at k
            exact k
          · have HR20 := Lib.hid (RowD.lit w126 [(1, 3), (2, 2)] #[.int .i64 1, .int .i64 3, .int .i64 2, .int .i64 2] 3 (0, 0) rfl)
            have hb := bel_box w126 (.cells #[.int .i64 1, .int .i64 3, .int .i64 2, .int .i64 2] 3)
            replace HX2 := Lib.hid (HX2.out.keep hb)
            replace HY2 := Lib.hid (HY2.out.keep hb)
            replace HSb := Lib.hid (HSb.out.keep hb)
            replace HR19 := Lib.hid (HR19.out.keep hb)
            replace HB := bel_tr HB hb
            clear hb
            refine Sch2.tree_e2 rfl rfl (fun K hK => ?_)
            go_wp2_with fail
            refine hK _ _ HSb.out ?_
            clear hK K
            generalize w126.alloc (.cells #[.int .i64 1, .int .i64 3, .int .i64 2, .int .i64 2] 3) = w127 at *
            refine Sch2.tree_e2 rfl rfl (fun K hK => ?_)
            go_wp2_with fail
            refine (of_list [(1, 3), (1, 1), (2, 2), (1, 2)] (some ⟨w125.heap.size, 0, none⟩) 8 _ HR19.out (by decide)).mono ?_
            rintro e w128 ⟨v, rfl, ho, hb⟩
            replace HX2 := Lib.hid (HX2.out.keep hb)
            replace HY2 := Lib.hid (HY2.out.keep hb)
            replace HSb := Lib.hid (HSb.out.keep hb)
            replace HR19 := Lib.hid (HR19.out.keep hb)
            replace HR20 := Lib.hid (HR20.out.keep hb)
            replace HB := bel_tr HB hb
            clear hb
            obtain ⟨g21, n21, rfl, hsv⟩ := od_first ho (by simp)
            have HV21 : Hid (SV w128 (.slice (some ⟨g21, 0, none⟩) 4 n21) [(1, 3), (1, 1), (2, 2), (1, 2)]) := hsv
            clear ho hsv
            refine hK _ _ HSb.out ?_
            clear hK K
            clear HR19
            refine Sch2.tree_e2 rfl rfl (fun K hK => ?_)
            go_wp2_with fail
            refine (con_any 1 [(1, 3), (2, 2)] (some ⟨w126.heap.size, 0, none⟩) 4 _ HR20.out (by decide) (by decide)).mono ?_
            rintro e w129 ⟨x, y, rfl, hsx, hsy, hb⟩
            replace HX2 := Lib.hid (HX2.out.keep hb)
            replace HY2 := Lib.hid (HY2.out.keep hb)
            replace HSb := Lib.hid (HSb.out.keep hb)
            replace HR20 := Lib.hid (HR20.out.keep hb)
            replace HV21 := Lib.hid (HV21.out.keep hb)
            replace HB := bel_tr HB hb
            clear hb
            obtain ⟨a22, n22, rfl, -⟩ := SV.sh hsx
            obtain ⟨b22, m22, rfl, -⟩ := SV.sh hsy
            have HX22 : Hid (SV w129 (.slice a22 1 n22) [(1, 3)]) := hsx
            have HY22 : Hid (SV w129 (.slice b22 1 m22) [(2, 2)]) := hsy
            clear hsx hsy
            refine hK _ _ HSb.out ?_
            clear hK K
            clear HR20
            have k := key ⟨w125.heap.size, g21, n21, w126.heap.size, a22, n22, b22, m22⟩ w129 ⟨HV21.out, HX22.out, HY22.out, HX2.out, HY2.out, HSb.out, HB.out⟩
            simp only [Act.put, List.setIfInBounds_toArray, List.set_cons_zero, List.set_cons_succ] at k
            exact k
        · have HR19 := Lib.hid (RowD.lit w125 [(1, 3), (2, 2)] #[.int .i64 1, .int .i64 3, .int .i64 2, .int .i64 2] 3 (0, 0) rfl)
          have hb := bel_box w125 (.cells #[.int .i64 1, .int .i64 3, .int .i64 2, .int .i64 2] 3)
          replace HX2 := Lib.hid (HX2.out.keep hb)
          replace HY2 := Lib.hid (HY2.out.keep hb)
          replace HSb := Lib.hid (HSb.out.keep hb)
          replace HB := bel_tr HB hb
          clear hb
          refine Sch2.tree_e2 rfl rfl (fun K hK => ?_)
          go_wp2_with fail
          refine hK _ _ HSb.out ?_
          clear hK K
          generalize w125.alloc (.cells #[.int .i64 1, .int .i64 3, .int .i64 2, .int .i64 2] 3) = w126 at *
          have HR20 := Lib.hid (RowD.lit w126 [(1, 3), (1, 1), (2, 2), (1, 2)] #[.int .i64 1, .int .i64 3, .int .i64 1, .int .i64 1, .int .i64 2, .int .i64 2, .int .i64 1, .int .i64 2] 3 (0, 0) rfl)
          have hb := bel_box w126 (.cells #[.int .i64 1, .int .i64 3, .int .i64 1, .int .i64 1, .int .i64 2, .int .i64 2, .int .i64 1, .int .i64 2] 3)
          replace HX2 := Lib.hid (HX2.out.keep hb)
          replace HY2 := Lib.hid (HY2.out.keep hb)
          replace HSb := Lib.hid (HSb.out.keep hb)
          replace HR19 := Lib.hid (HR19.out.keep hb)
          replace HB := bel_tr HB hb
          clear hb
          refine Sch2.tree_e2 rfl rfl (fun K hK => ?_)
          go_wp2_with fail
          refine hK _ _ HSb.out ?_
          clear hK K
          generalize w126.alloc (.cells #[.int .i64 1, .int .i64 3, .int .i64 1, .int .i64 1, .int .i64 2, .int .i64 2, .int .i64 1, .int .i64 2] 3) = w127 at *
          refine Sch2.tree_e2 rfl rfl (fun K hK => ?_)
          go_wp2_with fail
          refine (of_list [(1, 3), (1, 1), (2, 2), (1, 2)] (some ⟨w126.heap.size, 0, none⟩) 8 _ HR20.out (by decide)).mono ?_
          rintro e w128 ⟨v, rfl, ho, hb⟩
          replace HX2 := Lib.hid (HX2.out.keep hb)
          replace HY2 := Lib.hid (HY2.out.keep hb)
          replace HSb := Lib.hid (HSb.out.keep hb)
          replace HR19 := Lib.hid (HR19.out.keep hb)
          replace HR20 := Lib.hid (HR20.out.keep hb)
          replace HB := bel_tr HB hb
          clear hb
          obtain ⟨g21, n21, rfl, hsv⟩ := od_first ho (by simp)
          have HV21 : Hid (SV w128 (.slice (some ⟨g21, 0, none⟩) 4 n21) [(1, 3), (1, 1), (2, 2), (1, 2)]) := hsv
          clear ho hsv
          refine hK _ _ HSb.out ?_
          clear hK K
          clear HR20
          refine Sch2.tree_e2 rfl rfl (fun K hK => ?_)
          go_wp2_with fail
          refine (con_any 1 [(1, 3), (2, 2)] (some ⟨w125.heap.size, 0, none⟩) 4 _ HR19.out (by decide) (by decide)).mono ?_
          rintro e w129 ⟨x, y, rfl, hsx, hsy, hb⟩
          replace HX2 := Lib.hid (HX2.out.keep hb)
          replace HY2 := Lib.hid (HY2.out.keep hb)
          replace HSb := Lib.hid (HSb.out.keep hb)
          replace HR19 := Lib.hid (HR19.out.keep hb)
          replace HV21 := Lib.hid (HV21.out.keep hb)
          replace HB := bel_tr HB hb
          clear hb
          obtain ⟨a22, n22, rfl, -⟩ := SV.sh hsx
          obtain ⟨b22, m22, rfl, -⟩ := SV.sh hsy
          have HX22 : Hid (SV w129 (.slice a22 1 n22) [(1, 3)]) := hsx
          have HY22 : Hid (SV w129 (.slice b22 1 m22) [(2, 2)]) := hsy
          clear hsx hsy
          refine hK _ _ HSb.out ?_
          clear hK K
          clear HR19
          have k := key ⟨w126.heap.size, g21, n21, w125.heap.size, a22, n22, b22, m22⟩ w129 ⟨HV21.out, HX22.out, HY22.out, HX2.out, HY2.out, HSb.out, HB.out⟩
          simp only [Act.put, List.setIfInBounds_toArray, List.set_cons_zero, List.set_cons_succ] at k
          exact k
    case rest =>
      obtain ⟨rfl, HX2, HY2, HSb, HB⟩ := hcut
      generalize wc = w224 at *
      clear HX2 HY2
      have HR19 := Lib.hid (RowD.lit (w224) [(1, 2)] #[.int .i64 1, .int .i64 2] 3 (0, 0) rfl)
      have hb := bel_box (w224) (.cells #[.int .i64 1, .int .i64 2] 3)
      replace HSb := Lib.hid (HSb.out.keep hb)
      replace HB := bel_tr HB hb
      clear hb
      go_wp2_with fail
      generalize w224.alloc (.cells #[.int .i64 1, .int .i64 2] 3) = w225 at *
      refine (con_any 1 [(1, 2)] (some ⟨w224.heap.size, 0, none⟩) 2 _ HR19.out (by decide) (by decide)).mono ?_
      rintro e w226 ⟨x, y, rfl, hsx, hsy, hb⟩
      replace HSb := Lib.hid (HSb.out.keep hb)
      replace HR19 := Lib.hid (HR19.out.keep hb)
      replace HB := bel_tr HB hb
      clear hb
      obtain ⟨a20, n20, rfl, -⟩ := SV.sh hsx
      obtain ⟨b20, m20, rfl, -⟩ := SV.sh hsy
      have HX20 : Hid (SV w226 (.slice a20 1 n20) [(1, 2)]) := hsx
      have HY20 : Hid (SV w226 (.slice b20 0 m20) []) := hsy
      clear hsx hsy
      clear HR19
      have HR21 := Lib.hid (RowD.lit (w226) [(1, 1), (1, 2)] #[.int .i64 1, .int .i64 1, .int .i64 1, .int .i64 2] 3 (0, 0) rfl)
      have hb := bel_box (w226) (.cells #[.int .i64 1, .int .i64 1, .int .i64 1, .int .i64 2] 3)
      replace HSb := Lib.hid (HSb.out.keep hb)
      replace HX20 := Lib.hid (HX20.out.keep hb)
      replace HY20 := Lib.hid (HY20.out.keep hb)
      replace HB := bel_tr HB hb
      clear hb
      go_wp2_with fail
      generalize w226.alloc (.cells #[.int .i64 1, .int .i64 1, .int .i64 1, .int .i64 2] 3) = w227 at *
      refine (con_any 0 [(1, 1), (1, 2)] (some ⟨w226.heap.size, 0, none⟩) 4 _ HR21.out (by decide) (by decide)).mono ?_
      rintro e w228 ⟨x, y, rfl, hsx, hsy, hb⟩
      replace HSb := Lib.hid (HSb.out.keep hb)
      replace HX20 := Lib.hid (HX20.out.keep hb)
      replace HY20 := Lib.hid (HY20.out.keep hb)
      replace HR21 := Lib.hid (HR21.out.keep hb)
      replace HB := bel_tr HB hb
      clear hb
      obtain ⟨a22, n22, rfl, -⟩ := SV.sh hsx
      obtain ⟨b22, m22, rfl, -⟩ := SV.sh hsy
      have HX22 : Hid (SV w228 (.slice a22 0 n22) []) := hsx
      have HY22 : Hid (SV w228 (.slice b22 2 m22) [(1, 1), (1, 2)]) := hsy
      clear hsx hsy
      clear HR21
      go_wp2_with fail
      refine (within_true [(1, 2)] [] a20 b20 n20 m20 [] [(1, 1), (1, 2)] a22 b22 n22 m22 true 0 _ (SV.r HX20.out).1 (SV.r HY20.out).1 (SV.r HX22.out).1 (SV.r HY22.out).1 (SV.r HX22.out).2.1 (by decide) (by decide) (by decide) (by decide) ex16).mono ?_
      rintro e w229 ⟨rfl, hb⟩
      replace HSb := Lib.hid (HSb.out.keep hb)
      replace HX20 := Lib.hid (HX20.out.keep hb)
      replace HY20 := Lib.hid (HY20.out.keep hb)
      replace HX22 := Lib.hid (HX22.out.keep hb)
      replace HY22 := Lib.hid (HY22.out.keep hb)
      replace HB := bel_tr HB hb
      clear hb
      clear HX20 HY20 HX22 HY22
      have HR23 := Lib.hid (RowD.lit (w229) [(1, 2)] #[.int .i64 1, .int .i64 2] 3 (0, 0) rfl)
      have hb := bel_box (w229) (.cells #[.int .i64 1, .int .i64 2] 3)
      replace HSb := Lib.hid (HSb.out.keep hb)
      replace HB := bel_tr HB hb
      clear hb
      go_wp2_with fail
      generalize w229.alloc (.cells #[.int .i64 1, .int .i64 2] 3) = w230 at *
      refine (con_any 1 [(1, 2)] (some ⟨w229.heap.size, 0, none⟩) 2 _ HR23.out (by decide) (by decide)).mono ?_
      rintro e w231 ⟨x, y, rfl, hsx, hsy, hb⟩
      replace HSb := Lib.hid (HSb.out.keep hb)
      replace HR23 := Lib.hid (HR23.out.keep hb)
      replace HB := bel_tr HB hb
      clear hb
      obtain ⟨a24, n24, rfl, -⟩ := SV.sh hsx
      obtain ⟨b24, m24, rfl, -⟩ := SV.sh hsy
      have HX24 : Hid (SV w231 (.slice a24 1 n24) [(1, 2)]) := hsx
      have HY24 : Hid (SV w231 (.slice b24 0 m24) []) := hsy
      clear hsx hsy
      clear HR23
      have HR25 := Lib.hid (RowD.lit (w231) [(1, 2)] #[.int .i64 1, .int .i64 2] 3 (0, 0) rfl)
      have hb := bel_box (w231) (.cells #[.int .i64 1, .int .i64 2] 3)
      replace HSb := Lib.hid (HSb.out.keep hb)
      replace HX24 := Lib.hid (HX24.out.keep hb)
      replace HY24 := Lib.hid (HY24.out.keep hb)
      replace HB := bel_tr HB hb
      clear hb
      go_wp2_with fail
      generalize w231.alloc (.cells #[.int .i64 1, .int .i64 2] 3) = w232 at *
      refine (con_any 0 [(1, 2)] (some ⟨w231.heap.size, 0, none⟩) 2 _ HR25.out (by decide) (by decide)).mono ?_
      rintro e w233 ⟨x, y, rfl, hsx, hsy, hb⟩
      replace HSb := Lib.hid (HSb.out.keep hb)
      replace HX24 := Lib.hid (HX24.out.keep hb)
      replace HY24 := Lib.hid (HY24.out.keep hb)
      replace HR25 := Lib.hid (HR25.out.keep hb)
      replace HB := bel_tr HB hb
      clear hb
      obtain ⟨a26, n26, rfl, -⟩ := SV.sh hsx
      obtain ⟨b26, m26, rfl, -⟩ := SV.sh hsy
      have HX26 : Hid (SV w233 (.slice a26 0 n26) []) := hsx
      have HY26 : Hid (SV w233 (.slice b26 1 m26) [(1, 2)]) := hsy
      clear hsx hsy
      clear HR25
      go_wp2_with fail
      refine (within_true [(1, 2)] [] a24 b24 n24 m24 [] [(1, 2)] a26 b26 n26 m26 false 0 _ (SV.r HX24.out).1 (SV.r HY24.out).1 (SV.r HX26.out).1 (SV.r HY26.out).1 (SV.r HX26.out).2.1 (by decide) (by decide) (by decide) (by decide) ex17).mono ?_
      rintro e w234 ⟨rfl, hb⟩
      replace HSb := Lib.hid (HSb.out.keep hb)
      replace HX24 := Lib.hid (HX24.out.keep hb)
      replace HY24 := Lib.hid (HY24.out.keep hb)
      replace HX26 := Lib.hid (HX26.out.keep hb)
      replace HY26 := Lib.hid (HY26.out.keep hb)
      replace HB := bel_tr HB hb
      clear hb
      clear HX24 HY24 HX26 HY26
      have k0 := HSb.out.2.1
      have k1 := HSb.out.2.2
      go_wp2_with fail
      refine (within_true [] [] none none 0 0 [] [] none none 0 0 true 0 _ (.inl rfl) (.inl rfl) (.inl rfl) (.inl rfl) (fun _ => rfl) (by decide) (by decide) (by decide) (by decide) ex18).mono ?_
      rintro e w235 ⟨rfl, hb⟩
      replace HSb := Lib.hid (HSb.out.keep hb)
      replace HB := bel_tr HB hb
      clear hb
      go_wp2_with fail
      go_ret
      exact ⟨rfl, HB.out⟩
end Go.Proofs.Ytefnoajkdhgonaa.F
