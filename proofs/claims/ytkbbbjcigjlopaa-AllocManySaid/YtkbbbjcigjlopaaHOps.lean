/-
  New, Copy, and the methods that give dots.
-/
import Derived.Test.YtkbbbjcigjlopaaHMem
namespace Go.Proofs.Ytkbbbjcigjlopaa.H
set_option linter.unusedVariables false
open Go.RowKit V Go.Sort D

set_option maxRecDepth 100000 in
set_option maxHeartbeats 1000000 in
theorem new_ok (r l e : Int) (w : World) (h : newOk r l e = true) : Calls Try.prog 11 #[.int .i64 r, .int .i64 l, .int .i64 e] w fun x w' => ∃ g, x = .returned (.tuple #[.pointer (some ⟨g, 0, none⟩), .int .i64 0]) ∧ w.heap.size ≤ g ∧ Am w' g ⟨r, l, e⟩ ∧ Below w.heap.size w w' := by
  obtain ⟨h1, h2, h3, h4, h5⟩ := newOk_iff.1 h
  have HC := Lib.hid (canEnd_any r e w (by omega))
  rw [show endR r e = true by unfold endR; simp; omega] at HC
  have HV : Hid (Va ⟨r, l, e⟩) := ⟨h1, h2, h3, h4, h5⟩
  clear h h1 h2 h5
  go_enter Try.func11, Try.ntmps11
  go_wp2_with fail
  refine HC.out.mono ?_
  rintro x w1 ⟨rfl, hl⟩
  have HB := Lib.hid hl.bel
  clear hl HC
  go_wp2_with fail
  go_ret2
  exact ⟨_, rfl, HB.out.size, ⟨a3_new w1 ⟨r, l, e⟩ _, HV.out⟩, HB.out.alloc HB.out.size _⟩
set_option maxRecDepth 100000 in
set_option maxHeartbeats 1000000 in
theorem new_no (r l e : Int) (w : World) (h : newOk r l e = false) : Calls Try.prog 11 #[.int .i64 r, .int .i64 l, .int .i64 e] w fun x w' => x = .returned (.tuple #[.pointer none, .int .i64 2]) ∧ Below w.heap.size w w' := by
  by_cases h3 : 0 ≤ l
  · by_cases h4 : l ≤ e
    · have HC := Lib.hid (canEnd_any r e w (by omega))
      have hR : endR r e = false := by
        rw [← Bool.not_eq_true] at h ⊢
        intro k
        apply h
        rw [newOk_iff]
        unfold endR at k
        simp at k
        omega
      rw [hR] at HC
      clear h hR
      go_enter Try.func11, Try.ntmps11
      go_wp2_with fail
      refine HC.out.mono ?_
      rintro x w1 ⟨rfl, hl⟩
      have HB := Lib.hid hl.bel
      clear hl HC
      go_wp2_with fail
      go_ret2
      exact ⟨rfl, HB.out⟩
    · clear h
      go_enter Try.func11, Try.ntmps11
      go_wp2_with fail
      go_ret2
      exact ⟨rfl, Below.refl _ _⟩
  · clear h
    go_enter Try.func11, Try.ntmps11
    go_wp2_with fail
    go_ret2
    exact ⟨rfl, Below.refl _ _⟩
set_option maxRecDepth 100000 in
set_option maxHeartbeats 1000000 in
theorem copy_no (g : Nat) (x : Al) (w : World) (h : Am w g x) : Calls Try.prog 14 #[.pointer (some ⟨g, 0, none⟩)] w fun e w' => ∃ g', e = .returned (.pointer (some ⟨g', 0, none⟩)) ∧ w.heap.size ≤ g' ∧ Am w' g' x ∧ Below w.heap.size w w' := by
  have HN := Lib.hid (none_any _ _ _ h.sa)
  have hr : decide (x.r = 0) = false := by have := h.2.1; simp; omega
  rw [hr] at HN
  have HH := Lib.hid h
  have k0 := h.1.c0
  have k1 := h.1.c1
  have k2 := h.1.c2
  have hlt := h.1.lt
  clear h hr
  obtain ⟨r, l, e⟩ := x
  simp only at *
  go_enter Try.func14, Try.ntmps14
  go_wp2_with fail
  refine HN.out.mono ?_
  rintro e w1 ⟨rfl, rfl⟩
  go_wp2_with fail
  go_ret
  exact ⟨_, rfl, Nat.le_refl _, ⟨a3_new w1 ⟨r, l, _⟩ _, HH.out.2⟩, bel_box _ _⟩
set_option maxRecDepth 100000 in
set_option maxHeartbeats 1000000 in
theorem copy_yes (a : Option Addr) (l e : Int) (w : World) (h : Sa w a ⟨0, l, e⟩) : Calls Try.prog 14 #[.pointer a] w fun e w' => e = .returned (.pointer none) ∧ Below w.heap.size w w' := by
  have HN := Lib.hid (none_any _ _ _ h)
  clear h
  go_enter Try.func14, Try.ntmps14
  go_wp2_with fail
  refine HN.out.mono ?_
  rintro e w1 ⟨rfl, rfl⟩
  go_wp2_with fail
  go_ret
  exact ⟨rfl, Below.refl _ _⟩
set_option maxRecDepth 100000 in
set_option maxHeartbeats 1000000 in
theorem give_any (g : Nat) (x : Al) (w : World) (h : A3 w g x) (h1 : 0 ≤ x.l) (h2 : x.l ≤ 4294967295) : Calls Try.prog 29 #[.pointer (some ⟨g, 0, none⟩)] w fun e w' => e = .returned (dv (x.r, x.l + 1)) ∧ A3 w' g ⟨x.r, x.l + 1, x.e⟩ ∧ w.grownBy w' (some g) := by
  have HH := Lib.hid h
  have k0 := h.c0
  have k1 := h.c1
  have hlt := h.lt
  have hf := h.free 1
  have hne : ¬ g = w.heap.size := by omega
  clear h
  obtain ⟨r, l, e⟩ := x
  simp only at *
  go_enter Try.func29, Try.ntmps29
  go_wp2_with fail
  have HA : Hid (A3 (w.setCell ⟨g, 1, none⟩ (.int .i64 (l + 1))) g ⟨r, l + 1, e⟩) := HH.out.set1 (l + 1)
  have HG : Hid (w.grownBy (w.setCell ⟨g, 1, none⟩ (.int .i64 (l + 1))) (some g)) := gb_setCell _ _ _ _
  have hs : w.heap.size = (w.setCell ⟨g, 1, none⟩ (.int .i64 (l + 1))).heap.size := by simp [World.setCell]
  generalize w.setCell ⟨g, 1, none⟩ (.int .i64 (l + 1)) = X at *
  have q0 := (HA.out.keep (bel_box X (.cells #[.int .i64 0, .int .i64 0] 39))).c0
  have q1 := (HA.out.keep (bel_box X (.cells #[.int .i64 0, .int .i64 0] 39))).c1
  simp only at q0 q1
  clear k0 k1 hf
  go_region
  go_wp2_with fail
  (try simp only [Exit.inBlock, Exit.then])
  refine bodyPost_ret (v := dv (r, l + 1)) (by rw [results_cell1 (fn := Try.f29) (p := 2) (ty := 39) rfl]; go_simp) rfl ?_
  exact ⟨rfl, (HA.out.keep (bel_box _ _)).drewN 1, gb_drew (gb_trans HG.out (gb_alloc _ _ _))⟩
theorem am_give {w : World} {g : Nat} {x : Al} (h : A3 w g ⟨x.r, x.l + 1, x.e⟩) (hv : Va x) (hl : x.l < x.e) : Am w g ⟨x.r, x.l + 1, x.e⟩ := ⟨h, by
  obtain ⟨h1, h2, h3, h4, h5⟩ := hv
  exact ⟨h1, h2, by simp only; omega, by simp only; omega, h5⟩⟩

set_option maxRecDepth 100000 in
set_option maxHeartbeats 1000000 in
theorem next_yes (a : Option Addr) (l e : Int) (w : World) (h : Sa w a ⟨0, l, e⟩) : Calls Try.prog 15 #[.pointer a] w fun e w' => e = .returned (.tuple #[dv (0, 0), .int .i64 1]) ∧ Below w.heap.size w w' := by
  have HN := Lib.hid (none_any _ _ _ (h.keep (bel_box w (.cells #[.int .i64 0, .int .i64 0] 39))))
  clear h
  go_enter Try.func15, Try.ntmps15
  go_wp2_with fail
  refine HN.out.mono ?_
  rintro e w1 ⟨rfl, rfl⟩
  go_wp2_with fail
  (try simp only [Exit.inBlock, Exit.then])
  refine bodyPost_ret (v := .tuple #[dv (0, 0), .int .i64 1]) (by rw [results_cell_tmp (fn := Try.f15) (p := 2) (u := 3) (ty := 39) rfl]; go_simp) rfl ?_
  exact ⟨rfl, bel_box _ _⟩
set_option maxRecDepth 100000 in
set_option maxHeartbeats 1000000 in
theorem next_end (g : Nat) (x : Al) (w : World) (h : Am w g x) (he : x.e = x.l) : Calls Try.prog 15 #[.pointer (some ⟨g, 0, none⟩)] w fun e w' => e = .returned (.tuple #[dv (0, 0), .int .i64 14]) ∧ Below w.heap.size w w' := by
  have hk := h.keep (bel_box w (.cells #[.int .i64 0, .int .i64 0] 39))
  have HN := Lib.hid (none_any _ _ _ hk.sa)
  have HL := Lib.hid (left_any _ _ _ hk.sa)
  rw [show decide (x.r = 0) = false by have := h.2.1; simp; omega] at HN
  rw [show x.e - x.l = 0 by omega] at HL
  clear h hk he
  go_enter Try.func15, Try.ntmps15
  go_wp2_with fail
  refine HN.out.mono ?_
  rintro e w1 ⟨rfl, rfl⟩
  go_wp2_with fail
  refine HL.out.mono ?_
  rintro e w2 ⟨rfl, hl⟩
  have HB : Hid (Below w.heap.size w w2) := (bel_box w _).trans (hl.bel.mono (by simp))
  have k0 : w2.cell? ⟨w.heap.size, 0, none⟩ = some (.int .i64 0) := (hl.bel.cell (p := ⟨_, _, none⟩) (by simp)).trans (by go_simp)
  have k1 : w2.cell? ⟨w.heap.size, 1, none⟩ = some (.int .i64 0) := (hl.bel.cell (p := ⟨_, _, none⟩) (by simp)).trans (by go_simp)
  have f0 : w2.frozen? ⟨w.heap.size, 0, none⟩ = false := (hl.bel.frozen (p := ⟨_, _, none⟩) (by simp)).trans (by go_simp)
  have f1 : w2.frozen? ⟨w.heap.size, 1, none⟩ = false := (hl.bel.frozen (p := ⟨_, _, none⟩) (by simp)).trans (by go_simp)
  clear hl
  go_wp2_with fail
  (try simp only [Exit.inBlock, Exit.then])
  refine bodyPost_ret (v := .tuple #[dv (0, 0), .int .i64 14]) (by rw [results_cell_tmp (fn := Try.f15) (p := 2) (u := 3) (ty := 39) rfl]; go_simp) rfl ?_
  exact ⟨rfl, (HB.out.setCell (Nat.le_refl _) _).setCell (Nat.le_refl _) _⟩
set_option maxRecDepth 100000 in
set_option maxHeartbeats 1000000 in
theorem next_no (g : Nat) (x : Al) (w : World) (h : Am w g x) (he : x.l < x.e) : Calls Try.prog 15 #[.pointer (some ⟨g, 0, none⟩)] w fun e w' => e = .returned (.tuple #[dv (x.r, x.l + 1), .int .i64 0]) ∧ Am w' g ⟨x.r, x.l + 1, x.e⟩ ∧ w.grownBy w' (some g) := by
  have hk := h.keep (bel_box w (.cells #[.int .i64 0, .int .i64 0] 39))
  have HN := Lib.hid (none_any _ _ _ hk.sa)
  have HL := Lib.hid (left_any _ _ _ hk.sa)
  rw [show decide (x.r = 0) = false by have := h.2.1; simp; omega] at HN
  have HK := Lib.hid hk
  have hg := h.1.lt
  have HE := Lib.hid he
  have HV := Lib.hid h.2
  have hd : (x.e - x.l == 0) = false := by rw [beq_eq_false_iff_ne]; omega
  generalize hz : x.e - x.l = z at *
  clear h hk he hz
  go_enter Try.func15, Try.ntmps15
  go_wp2_with fail
  refine HN.out.mono ?_
  rintro e w1 ⟨rfl, rfl⟩
  go_wp2_with fail
  refine HL.out.mono ?_
  rintro e w2 ⟨rfl, hl⟩
  have HB : Hid (Below w.heap.size w w2) := (bel_box w _).trans (hl.bel.mono (by simp))
  have k0 : w2.cell? ⟨w.heap.size, 0, none⟩ = some (.int .i64 0) := (hl.bel.cell (p := ⟨_, _, none⟩) (by simp)).trans (by go_simp)
  have k1 : w2.cell? ⟨w.heap.size, 1, none⟩ = some (.int .i64 0) := (hl.bel.cell (p := ⟨_, _, none⟩) (by simp)).trans (by go_simp)
  have f0 : w2.frozen? ⟨w.heap.size, 0, none⟩ = false := (hl.bel.frozen (p := ⟨_, _, none⟩) (by simp)).trans (by go_simp)
  have f1 : w2.frozen? ⟨w.heap.size, 1, none⟩ = false := (hl.bel.frozen (p := ⟨_, _, none⟩) (by simp)).trans (by go_simp)
  have HG := Lib.hid (give_any g x w2 ((HK.out.keep hl.bel).1) HV.out.2.2.1 (by have := HV.out.2.2.2.2; have := HE.out; omega))
  have hlt : w.heap.size < w2.heap.size := by have := hl.bel.size; simp at this; omega
  clear hl HN HL
  go_wp2_with fail
  refine HG.out.mono ?_
  rintro e w3 ⟨rfl, ha, hgr⟩
  have HA := Lib.hid ha
  have HR := Lib.hid (gb_trans (gb_below HB.out (some g)) hgr)
  have e2 : w3.heap[w.heap.size]? = w2.heap[w.heap.size]? := hgr.block _ hlt (by simp; omega)
  replace k0 : w3.cell? ⟨w.heap.size, 0, none⟩ = some (.int .i64 0) := (World.cell?_of_block (w := w2) e2).trans k0
  replace k1 : w3.cell? ⟨w.heap.size, 1, none⟩ = some (.int .i64 0) := (World.cell?_of_block (w := w2) e2).trans k1
  replace f0 : w3.frozen? ⟨w.heap.size, 0, none⟩ = false := by simpa only [World.frozen?, e2] using f0
  replace f1 : w3.frozen? ⟨w.heap.size, 1, none⟩ = false := by simpa only [World.frozen?, e2] using f1
  clear ha hgr e2 HG HB
  go_wp2_with fail
  (try simp only [Exit.inBlock, Exit.then])
  refine bodyPost_ret (v := .tuple #[dv (x.r, x.l + 1), .int .i64 0]) (by rw [results_cell_tmp (fn := Try.f15) (p := 2) (u := 3) (ty := 39) rfl]; go_simp) rfl ?_
  refine ⟨rfl, ?_, gb_new (gb_new HR.out (Nat.le_refl _) _ _) (Nat.le_refl _) _ _⟩
  have hm := am_give HA.out HV.out HE.out
  exact (hm.gb (gb_setCell _ _ _ _) (by omega)).gb (gb_setCell _ _ _ _) (by omega)
end Go.Proofs.Ytkbbbjcigjlopaa.H
