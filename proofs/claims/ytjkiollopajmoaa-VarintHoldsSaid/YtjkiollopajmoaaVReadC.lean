/-
  The readers of layer 1: bytes with their length; how readers are made and copied.
-/
import Derived.Test.YtjkiollopajmoaaVReadB
namespace Go.Proofs.Ytjkiollopajmoaa.V
set_option linter.unusedVariables false
open Go.RowKit

set_option maxHeartbeats 400000 in
theorem bytes_yes (w : World) (a : Option Addr) (n : Int) (h : Zr w a) :
    Calls Try.prog 49 #[.pointer a, .int .i64 n] w fun e w' => e = .returned (.tuple #[.slice none 0 0, .int .i64 1]) ∧ w = w' := by
  have H := Lib.hid h
  clear h
  go_enter Try.func49, Try.ntmps49
  go_wp2_with (go_at_call 40; refine (isZero_yes _ a H.out).mono ?_; rintro e w' ⟨rfl, rfl⟩)
  go_ret2
  exact ⟨rfl, rfl⟩

set_option maxRecDepth 100000 in
set_option maxHeartbeats 800000 in
theorem bytes_no (w : World) (r : Nat) (s : ByteArray) (p : Nat) (most : Int) (hm1 : -9223372036854775808 ≤ most) (hm2 : most ≤ 9223372036854775807) (h : Rd w r s p) :
    Calls Try.prog 49 #[.pointer (some ⟨r, 0, none⟩), .int .i64 most] w fun e w' =>
      ∃ a c, e = .returned (.tuple #[.slice a (rs (s.data.toList.drop p) most).1.length c, .int .i64 (rs (s.data.toList.drop p) most).2.2]) ∧ Row8 w' a (rs (s.data.toList.drop p) most).1 ∧
        (a = none ∨ a = some ⟨w.heap.size, 0, none⟩) ∧ Rd w' r s (p + (rs (s.data.toList.drop p) most).2.1) ∧ w.grownBy w' (some r) := by
  have c0 := h.c0
  have c1 := h.c1
  have f1 := h.free 1
  have hp := h.2.1
  have hs := h.2.2
  have H := Lib.hid h
  clear h
  obtain ⟨n, z, er, hd⟩ : ∃ n z e, rd (s.data.toList.drop p) 0 0 = (n, z, e) := ⟨_, _, _, rfl⟩
  have hP := parse_at s p hs hd
  have HP : Hid (∀ w, _) := hP
  clear hP
  have hz := rd_le (s.data.toList.drop p)
  have hn := rd_lt (s.data.toList.drop p)
  rw [hd] at hn hz
  rw [List.length_drop] at hz
  have hz' : p + z ≤ s.size := by simp at hz; omega
  simp only at hn
  have HD := Lib.hid hd
  clear hd hz
  by_cases he : er = 0
  · subst he
    by_cases hlong : most < 0 ∨ most < (n : Int)
    · have hfin := rs_long HD.out most rfl hlong
      rw [hfin]
      have HF := Lib.hid hfin
      clear hfin
      rcases hlong with hl | hl
      · go_enter Try.func49, Try.ntmps49
        go_wp2_with (go_at_call 40; refine (isZero_no _ r s p H.out).mono ?_; rintro e w' ⟨rfl, rfl⟩)
        go_quiet ((go_at_call 46; exact Calls.quiet_of_same (HP.out _)))
        go_wp2
        all_goals go_ret2
        all_goals exact ⟨none, 0, rfl, .inl rfl, .inl rfl, H.out.drewN _, gb_drewN _ _ _⟩
      · by_cases hneg : most < 0
        · go_enter Try.func49, Try.ntmps49
          go_wp2_with (go_at_call 40; refine (isZero_no _ r s p H.out).mono ?_; rintro e w' ⟨rfl, rfl⟩)
          go_quiet ((go_at_call 46; exact Calls.quiet_of_same (HP.out _)))
          go_wp2
          all_goals go_ret2
          all_goals exact ⟨none, 0, rfl, .inl rfl, .inl rfl, H.out.drewN _, gb_drewN _ _ _⟩
        · obtain ⟨m, rfl⟩ := Int.eq_ofNat_of_zero_le (show 0 ≤ most by omega)
          go_enter Try.func49, Try.ntmps49
          go_wp2_with (go_at_call 40; refine (isZero_no _ r s p H.out).mono ?_; rintro e w' ⟨rfl, rfl⟩)
          go_quiet ((go_at_call 46; exact Calls.quiet_of_same (HP.out _)))
          go_wp2
          all_goals go_ret2
          all_goals exact ⟨none, 0, rfl, .inl rfl, .inl rfl, H.out.drewN _, gb_drewN _ _ _⟩
    · obtain ⟨m, rfl⟩ := Int.eq_ofNat_of_zero_le (show 0 ≤ most by omega)
      have hnm : n ≤ m := by omega
      by_cases hsh : s.size - (p + z) < n
      · have hfin := rs_short HD.out (m : Int) rfl hlong (by rw [List.length_drop]; simp; omega)
        rw [hfin]
        have HF := Lib.hid hfin
        clear hfin hlong
        have hsh' : (s.size : Int) - ((p : Int) + (z : Int)) < (n : Int) := by omega
        go_enter Try.func49, Try.ntmps49
        go_wp2_with (go_at_call 40; refine (isZero_no _ r s p H.out).mono ?_; rintro e w' ⟨rfl, rfl⟩)
        go_quiet ((go_at_call 46; exact Calls.quiet_of_same (HP.out _)))
        go_wp2
        all_goals go_ret2
        all_goals exact ⟨none, 0, rfl, .inl rfl, .inl rfl, H.out.drewN _, gb_drewN _ _ _⟩
      · have hfin := rs_fine HD.out (m : Int) rfl hlong (by rw [List.length_drop]; simp; omega)
        have hlen : ((List.drop z (List.drop p s.data.toList)).take n).length = n := by simp; omega
        rw [hfin]
        simp only
        rw [hlen]
        have HF := Lib.hid hfin
        have HL := Lib.hid hlen
        clear hfin hlong hlen
        have hin : p + z + n ≤ s.size := by omega
        have hsh' : ¬ (s.size : Int) - ((p : Int) + (z : Int)) < (n : Int) := by omega
        have kc := fun (w : World) => run_bytes_of_string (P := Try.prog) w 9 23 5 (s.extract (p + z) (p + z + n)) Try.underlying9 Try.underlying23 Try.underlying5
        go_enter Try.func49, Try.ntmps49
        go_wp2_with (go_at_call 40; refine (isZero_no _ r s p H.out).mono ?_; rintro e w' ⟨rfl, rfl⟩)
        go_quiet ((go_at_call 46; exact Calls.quiet_of_same (HP.out _)))
        go_wp2
        go_region
        go_wp2
        go_ret2
        have e1 : (p : Int) + (z : Int) + (n : Int) = ((p + (z + n) : Nat) : Int) := by omega
        have hX : w.heap.size = ((w.drewN nq).setCell ⟨r, 1, none⟩ (.int .i64 ((p : Int) + (z : Int) + (n : Int)))).heap.size := by simp [World.setCell]
        have hR : Rd ((w.drewN nq).setCell ⟨r, 1, none⟩ (.int .i64 ((p : Int) + (z : Int) + (n : Int)))) r s (p + (z + n)) := by
          rw [e1]
          exact (H.out.drewN nq).set (by omega)
        have hG : w.grownBy ((w.drewN nq).setCell ⟨r, 1, none⟩ (.int .i64 ((p : Int) + (z : Int) + (n : Int)))) (some r) := gb_trans (gb_drewN w nq _) (gb_setCell _ _ _ _)
        clear kc e1
        generalize (w.drewN nq).setCell ⟨r, 1, none⟩ (.int .i64 ((p : Int) + (z : Int) + (n : Int))) = X at *
        refine ⟨_, _, rfl, ?_, .inr rfl, ?_, ?_⟩
        · rw [List.drop_drop, ← part_bytes]
          exact (row_new X _ _ _ _ _ hX).drew.drew
        · exact (hR.keep ((Below.refl _ _).alloc (Nat.le_refl _) _)).drew.drew
        · exact gb_drew (gb_drew (gb_trans hG (gb_alloc _ _ _)))
  · have hfin := rs_fail HD.out most he
    rw [hfin]
    have HF := Lib.hid hfin
    have hb : ((er : Int) != 0) = true := by rw [bne_iff_ne]; omega
    clear hfin
    go_enter Try.func49, Try.ntmps49
    go_wp2_with (go_at_call 40; refine (isZero_no _ r s p H.out).mono ?_; rintro e w' ⟨rfl, rfl⟩)
    go_quiet ((go_at_call 46; exact Calls.quiet_of_same (HP.out _)))
    go_wp2
    all_goals go_ret2
    all_goals exact ⟨none, 0, rfl, .inl rfl, .inl rfl, H.out.drewN _, gb_drewN _ _ _⟩

/-- What a conversion of a slice of bytes to a string gives. -/
theorem conv_row {P : Program} {w : World} {a : Option Addr} {l : List UInt8} (h : Row8 w a l) (c : Nat) (src dst e : TypeId) (hs : P.underlying src = some (.slice e)) (he : P.underlying e = some (.int .u8)) (hd : P.underlying dst = some .string) :
    (convert src dst (.slice a l.length c)).run P w = .ok (.string ⟨l.toArray⟩) w := by
  by_cases hl : l = []
  · subst hl
    rcases a with _ | a
    · exact run_convert_bytes_nil w src e hs he _ _ dst hd
    · exact run_convert_bytes_back w src dst e a c [] hs he hd (fun j hj => by simp at hj)
  · obtain ⟨b, o, rfl, hc⟩ := h.resolve_left hl
    refine run_convert_bytes_back w src dst e ⟨b, o, none⟩ c l hs he hd (fun j hj => ?_)
    have := hc j hj
    rcases Nat.eq_zero_or_pos j with rfl | hj0
    · simpa [Addr.add] using this
    · simpa [Addr.add, Nat.ne_of_gt hj0] using this

theorem conv_str {P : Program} {w : World} {a : Option Addr} {s : ByteArray} (h : Row8 w a s.data.toList) (c : Nat) (src dst e : TypeId) (hs : P.underlying src = some (.slice e)) (he : P.underlying e = some (.int .u8)) (hd : P.underlying dst = some .string) :
    (convert src dst (.slice a s.size c)).run P w = .ok (.string s) w := conv_row h c src dst e hs he hd

/-- A reader of some bytes, of which none was read, in new memory. -/
theorem new_rd (w : World) (s : ByteArray) (p : Nat) (t : TypeId) (hp : p ≤ s.size) (hs : s.size ≤ 9223372036854775807) : Rd (w.alloc (.cells #[.string s, .int .i64 (p : Int), .bool true] t)) w.heap.size s p := by
  refine ⟨⟨t, ?_⟩, hp, hs⟩
  show (w.heap.push _)[w.heap.size]? = _
  simp

set_option maxHeartbeats 400000 in
theorem new_any (w : World) (a : Option Addr) (l : List UInt8) (c : Nat) (hl : l.length ≤ 9223372036854775807) (h : Row8 w a l) :
    Calls Try.prog 15 #[.slice a l.length c] w fun e w' => e = .returned (.pointer (some ⟨w.heap.size, 0, none⟩)) ∧ Rd w' w.heap.size ⟨l.toArray⟩ 0 ∧ Below w.heap.size w w' := by
  have hcv := conv_row (P := Try.prog) h c 23 9 5 Try.underlying23 Try.underlying5 Try.underlying9
  clear h
  go_enter Try.func15, Try.ntmps15
  go_wp2
  go_ret
  refine ⟨rfl, new_rd w _ 0 _ (Nat.zero_le _) (by simpa [ByteArray.size] using hl), (Below.refl _ _).alloc (Nat.le_refl _) _⟩

set_option maxHeartbeats 400000 in
theorem copy_no (w : World) (r : Nat) (s : ByteArray) (p : Nat) (h : Rd w r s p) :
    Calls Try.prog 29 #[.pointer (some ⟨r, 0, none⟩)] w fun e w' => e = .returned (.pointer (some ⟨w.heap.size, 0, none⟩)) ∧ Rd w' w.heap.size s p ∧ Below w.heap.size w w' := by
  have c0 := h.c0
  have c1 := h.c1
  have c2 := h.c2
  have hlt := h.lt
  have H := Lib.hid h
  clear h
  go_enter Try.func29, Try.ntmps29
  go_wp2_with (go_at_call 40; refine (isZero_no _ r s p H.out).mono ?_; rintro e w' ⟨rfl, rfl⟩)
  go_ret
  exact ⟨rfl, new_rd w s p _ H.out.2.1 H.out.2.2, (Below.refl _ _).alloc (Nat.le_refl _) _⟩

set_option maxHeartbeats 400000 in
theorem copy_yes (w : World) (a : Option Addr) (h : Zr w a) :
    Calls Try.prog 29 #[.pointer a] w fun e w' => e = .returned (.pointer none) ∧ w = w' := by
  have H := Lib.hid h
  clear h
  go_enter Try.func29, Try.ntmps29
  go_wp2_with (go_at_call 40; refine (isZero_yes _ a H.out).mono ?_; rintro e w' ⟨rfl, rfl⟩)
  go_ret
  exact ⟨rfl, rfl⟩

end Go.Proofs.Ytjkiollopajmoaa.V
