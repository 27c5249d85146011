/-
  The readers of layer 1, where they read: numbers, signed numbers, bytes.
-/
import Derived.Test.YtjkiollopajmoaaVRead
namespace Go.Proofs.Ytjkiollopajmoaa.V
set_option linter.unusedVariables false
open Go.RowKit

theorem parse_at (s : ByteArray) (p : Nat) (hs : s.size ≤ 9223372036854775807) {n z e : Nat} (hd : rd (s.data.toList.drop p) 0 0 = (n, z, e)) (w : World) :
    Calls Try.prog 46 #[.string (s.extract p s.size)] w fun e' w' => e' = .returned (.tuple #[.int .u64 n, .int .i64 z, .int .i64 e]) ∧ w' = w := by
  have := parse_any (s.extract p s.size) w (by rw [ByteArray.size_extract]; omega)
  rw [drop_bytes, hd] at this
  exact this.mono fun _ _ ⟨h1, h2⟩ => ⟨h1, h2.symm⟩

set_option maxHeartbeats 400000 in
theorem num_no (w : World) (r : Nat) (s : ByteArray) (p : Nat) (most : Nat) (h : Rd w r s p) :
    Calls Try.prog 30 #[.pointer (some ⟨r, 0, none⟩), .int .u64 (most : Int)] w fun e w' =>
      e = .returned (.tuple #[.int .u64 (rn (s.data.toList.drop p) most).1, .int .i64 (rn (s.data.toList.drop p) most).2.2]) ∧ Rd w' r s (p + (rn (s.data.toList.drop p) most).2.1) ∧ w.grownBy w' (some r) := by
  have c0 := h.c0
  have c1 := h.c1
  have f1 := h.free 1
  have hp := h.2.1
  have hs := h.2.2
  have H := Lib.hid h
  clear h
  obtain ⟨n, z, er, hd⟩ : ∃ n z e, rd (s.data.toList.drop p) 0 0 = (n, z, e) := ⟨_, _, _, rfl⟩
  have hP := parse_at s p hs hd
  have HP : Hid (∀ w, _) := hP
  clear hP
  have hz := rd_le (s.data.toList.drop p)
  rw [hd, List.length_drop] at hz
  have hz' : p + z ≤ s.size := by simp at hz; omega
  have HD := Lib.hid hd
  clear hd hz
  go_enter Try.func30, Try.ntmps30
  go_wp2_with (go_at_call 40; refine (isZero_no _ r s p H.out).mono ?_; rintro e w' ⟨rfl, rfl⟩)
  go_quiet ((go_at_call 46; exact Calls.quiet_of_same (HP.out _)))
  go_wp2
  · have t1 : ((er : Int) != 0) = true := by assumption
    rw [bne_iff_ne] at t1
    go_ret2
    rw [rn_fail HD.out most (by omega)]
    exact ⟨rfl, H.out.drewN _, gb_drewN _ _ _⟩
  · have t1 : ((er : Int) != 0) = false := by assumption
    have t2 : most < n := by assumption
    rw [bne_eq_false_iff_eq] at t1
    go_ret2
    rw [rn_range HD.out most (by omega) t2]
    exact ⟨rfl, H.out.drewN _, gb_drewN _ _ _⟩
  · have t1 : ((er : Int) != 0) = false := by assumption
    have t2 : ¬ most < n := by assumption
    rw [bne_eq_false_iff_eq] at t1
    go_ret2
    rw [rn_fine HD.out most (by omega) t2]
    refine ⟨rfl, ?_, ?_⟩
    · have e : (p : Int) + (z : Int) = ((p + z : Nat) : Int) := by omega
      rw [e]
      exact (H.out.set hz').drewN _
    · exact gb_trans (gb_setCell _ _ _ _) (gb_drewN _ _ _)

set_option maxHeartbeats 400000 in
theorem num_yes (w : World) (a : Option Addr) (most : Int) (h : Zr w a) :
    Calls Try.prog 30 #[.pointer a, .int .u64 most] w fun e w' => e = .returned (.tuple #[.int .u64 0, .int .i64 1]) ∧ w = w' := by
  have H := Lib.hid h
  clear h
  go_enter Try.func30, Try.ntmps30
  go_wp2_with (go_at_call 40; refine (isZero_yes _ a H.out).mono ?_; rintro e w' ⟨rfl, rfl⟩)
  go_ret2
  exact ⟨rfl, rfl⟩

set_option maxHeartbeats 400000 in
theorem int_yes (w : World) (a : Option Addr) (h : Zr w a) :
    Calls Try.prog 41 #[.pointer a] w fun e w' => e = .returned (.tuple #[.int .i64 0, .int .i64 1]) ∧ w = w' := by
  have H := Lib.hid h
  clear h
  go_enter Try.func41, Try.ntmps41
  go_wp2_with (go_at_call 30; refine (num_yes _ a _ H.out).mono ?_; rintro e w' ⟨rfl, rfl⟩)
  go_ret2
  exact ⟨rfl, rfl⟩

set_option maxHeartbeats 400000 in
/-- What Int returns: the signed number for which the number stands that is read. -/
theorem int_no (w : World) (r : Nat) (s : ByteArray) (p : Nat) (h : Rd w r s p) :
    Calls Try.prog 41 #[.pointer (some ⟨r, 0, none⟩)] w fun e w' =>
      e = .returned (.tuple #[.int .i64 (zag (rn (s.data.toList.drop p) 18446744073709551615).1), .int .i64 (rn (s.data.toList.drop p) 18446744073709551615).2.2]) ∧ Rd w' r s (p + (rn (s.data.toList.drop p) 18446744073709551615).2.1) ∧ w.grownBy w' (some r) := by
  have HC := Lib.hid (num_no w r s p 18446744073709551615 h)
  clear h
  have hlt := rn_lt (s.data.toList.drop p) 18446744073709551615
  have he0 := rn_zero (s.data.toList.drop p) 18446744073709551615
  generalize rn (s.data.toList.drop p) 18446744073709551615 = d at *
  obtain ⟨n, z, er⟩ := d
  simp only at hlt he0 HC ⊢
  have HE := Lib.hid he0
  clear he0
  go_enter Try.func41, Try.ntmps41
  go_wp2_with (first | (go_at_call 30; refine HC.out.mono ?_; rintro e w' ⟨rfl, hR, hG⟩) | (go_at_call 12; refine (zag_any n _ hlt).mono ?_; rintro e w' ⟨rfl, rfl⟩))
  · have t1 : ((er : Int) != 0) = true := by assumption
    rw [bne_iff_ne] at t1
    go_ret2
    have hn := HE.out (by omega)
    subst hn
    exact ⟨rfl, hR, hG⟩
  · have t1 : ((er : Int) != 0) = false := by assumption
    rw [bne_eq_false_iff_eq] at t1
    go_ret2
    exact ⟨ret2 rfl t1.symm, hR, hG⟩

/-- The bytes of a new row. -/
theorem row_new (w : World) (s : ByteArray) (c : Nat) (n g : Nat) (t : TypeId) (hg : g = w.heap.size) : Row8 (w.alloc (.cells (bytesRow s c) t (n, n + 1))) (some ⟨g, 0, none⟩) s.data.toList := by
  subst hg
  by_cases h : s.data.toList = []
  · exact .inl h
  · refine .inr ⟨_, _, rfl, fun i hi => ?_⟩
    have hi' : i < s.size := by simpa using hi
    have hh : (w.alloc (.cells (bytesRow s c) t (n, n + 1))).heap[w.heap.size]? = some (.cells (bytesRow s c) t (n, n + 1)) := by
      show (w.heap.push _)[w.heap.size]? = _
      simp
    unfold World.cell?
    rw [hh]
    have hi2 : i < s.data.size := hi'
    simp [bytesRow, hi', Array.getElem?_append, Array.getElem?_eq_getElem hi2]

set_option maxHeartbeats 400000 in
theorem raw_yes (w : World) (a : Option Addr) (n : Int) (h : Zr w a) :
    Calls Try.prog 31 #[.pointer a, .int .i64 n] w fun e w' => e = .returned (.tuple #[.slice none 0 0, .int .i64 1]) ∧ w = w' := by
  have H := Lib.hid h
  clear h
  go_enter Try.func31, Try.ntmps31
  go_wp2_with (go_at_call 40; refine (isZero_yes _ a H.out).mono ?_; rintro e w' ⟨rfl, rfl⟩)
  go_ret2
  exact ⟨rfl, rfl⟩

set_option maxHeartbeats 400000 in
theorem raw_neg (w : World) (r : Nat) (s : ByteArray) (p : Nat) (n : Int) (h : Rd w r s p) (hn : n < 0) :
    Calls Try.prog 31 #[.pointer (some ⟨r, 0, none⟩), .int .i64 n] w fun e w' => e = .returned (.tuple #[.slice none 0 0, .int .i64 2]) ∧ w = w' := by
  have H := Lib.hid h
  clear h
  go_enter Try.func31, Try.ntmps31
  go_wp2_with (go_at_call 40; refine (isZero_no _ r s p H.out).mono ?_; rintro e w' ⟨rfl, rfl⟩)
  go_ret2
  exact ⟨rfl, rfl⟩

set_option maxHeartbeats 400000 in
theorem raw_short (w : World) (r : Nat) (s : ByteArray) (p : Nat) (n : Int) (h : Rd w r s p) (hn : ((s.size - p : Nat) : Int) < n) :
    Calls Try.prog 31 #[.pointer (some ⟨r, 0, none⟩), .int .i64 n] w fun e w' => e = .returned (.tuple #[.slice none 0 0, .int .i64 4]) ∧ ∃ q, w' = w.drewN q := by
  have hnn : 0 ≤ n := by omega
  have HL := Lib.hid (left_no w r s p h)
  have H := Lib.hid h
  clear h
  generalize ((s.size - p : Nat) : Int) = m at *
  go_enter Try.func31, Try.ntmps31
  go_wp2_with (first | (go_at_call 40; refine (isZero_no _ r s p H.out).mono ?_; rintro e w' ⟨rfl, rfl⟩) | (go_at_call 34; refine HL.out.mono ?_; rintro e w' ⟨rfl, q, rfl⟩))
  go_ret2
  exact ⟨rfl, _, rfl⟩

set_option maxHeartbeats 400000 in
theorem raw_ok (w : World) (r : Nat) (s : ByteArray) (p n : Nat) (h : Rd w r s p) (hn : p + n ≤ s.size) :
    Calls Try.prog 31 #[.pointer (some ⟨r, 0, none⟩), .int .i64 (n : Int)] w fun e w' =>
      ∃ c, e = .returned (.tuple #[.slice (some ⟨w.heap.size, 0, none⟩) n c, .int .i64 0]) ∧ Row8 w' (some ⟨w.heap.size, 0, none⟩) ((s.data.toList.drop p).take n) ∧ Rd w' r s (p + n) ∧ w.grownBy w' (some r) := by
  have HL := Lib.hid (left_no w r s p h)
  have c0 := h.c0
  have c1 := h.c1
  have f1 := h.free 1
  have hp := h.2.1
  have hs := h.2.2
  have H := Lib.hid h
  clear h
  have hm : (n : Int) ≤ ((s.size - p : Nat) : Int) := by omega
  generalize ((s.size - p : Nat) : Int) = m at *
  have kc := fun (w : World) => run_bytes_of_string (P := Try.prog) w 9 23 5 (s.extract p (p + n)) Try.underlying9 Try.underlying23 Try.underlying5
  go_enter Try.func31, Try.ntmps31
  go_wp2_with (first | (go_at_call 40; refine (isZero_no _ r s p H.out).mono ?_; rintro e w' ⟨rfl, rfl⟩) | (go_at_call 34; refine HL.out.mono ?_; rintro e w' ⟨rfl, q, rfl⟩))
  go_region
  go_wp2
  go_ret2
  have hX : w.heap.size = ((w.drewN q).setCell ⟨r, 1, none⟩ (.int .i64 ((p : Int) + (n : Int)))).heap.size := by simp [World.setCell]
  have hR : Rd ((w.drewN q).setCell ⟨r, 1, none⟩ (.int .i64 ((p : Int) + (n : Int)))) r s (p + n) := (H.out.drewN q).set hn
  have hG : w.grownBy ((w.drewN q).setCell ⟨r, 1, none⟩ (.int .i64 ((p : Int) + (n : Int)))) (some r) := gb_trans (gb_drewN w q _) (gb_setCell _ _ _ _)
  clear kc
  generalize (w.drewN q).setCell ⟨r, 1, none⟩ (.int .i64 ((p : Int) + (n : Int))) = X at *
  refine ⟨_, rfl, ?_, ?_, ?_⟩
  · rw [← part_bytes]
    exact (row_new X _ _ _ _ _ hX).drew.drew
  · exact (hR.keep ((Below.refl _ _).alloc (Nat.le_refl _) _)).drew.drew
  · exact gb_drew (gb_drew (gb_trans hG (gb_alloc _ _ _)))

end Go.Proofs.Ytjkiollopajmoaa.V
