/-
  Take, Extend, Pass.
-/
import Derived.Test.YtkbbbjcigjlopaaHOps
import Derived.OwnWalk
namespace Go.Proofs.Ytkbbbjcigjlopaa.H
set_option linter.unusedVariables false
open Go.RowKit V Go.Sort D

/-- The row that is being filled: k dots are given. -/
def fillA (r l : Int) (k i : Nat) : Dt := if i < k then (r, l + 1 + (i : Int)) else (0, 0)
theorem made_two (m j : Nat) (h : j < m) : (madeCells #[.int .i64 0, .int .i64 0] m).toList[j]? = some (.int .i64 0) := by
  rcases Nat.mod_two_eq_zero_or_one j with e | e <;> simp [madeCells, h, e]
theorem rw_made {w : World} {base b n : Nat} {E : TypeId} (h : w.ownsRow base E 2 (.slice (some ⟨b, 0, none⟩) n n) n (madeCells #[.int .i64 0, .int .i64 0] (n * 2)).toList) (hb : b < w.heap.size) (r l : Int) : Rw w b n (fillA r l 0) := by
  refine ⟨hb, fun i hi => ?_⟩
  have c0 := World.ownsRow.cellAt h (i * 2) (by omega)
  have c1 := World.ownsRow.cellAt h (i * 2 + 1) (by omega)
  have f0 := World.ownsRow.frozenAt h (i * 2)
  have f1 := World.ownsRow.frozenAt h (i * 2 + 1)
  rw [made_two _ _ (by omega)] at c0 c1
  unfold fillA
  rw [if_neg (by omega)]
  exact ⟨c0, c1, f0, f1⟩
theorem rw_dots {w : World} {b n : Nat} {r l : Int} (h : Rw w b n (fillA r l n)) : RowD w (some ⟨b, 0, none⟩) (dotsA r l n) := by
  have hn : n = (dotsA r l n).length := (dotsA_len r l n).symm
  have h2 : Rw w b (dotsA r l n).length (fillA r l n) := by rw [← hn]; exact h
  refine h2.row fun i hi => ?_
  rw [dotsA_at hi]
  unfold fillA
  rw [if_pos (by omega)]
set_option maxRecDepth 100000 in
set_option maxHeartbeats 1000000 in
theorem take_yes (a : Option Addr) (l e n : Int) (w : World) (h : Sa w a ⟨0, l, e⟩) : Calls Try.prog 18 #[.pointer a, .int .i64 n] w fun e w' => e = .returned (.tuple #[.slice none 0 0, .int .i64 1]) ∧ Below w.heap.size w w' := by
  have HN := Lib.hid (none_any _ _ _ h)
  clear h
  go_enter Try.func18, Try.ntmps18
  go_wp2_with fail
  refine HN.out.mono ?_
  rintro e w1 ⟨rfl, rfl⟩
  go_wp2_with fail
  go_ret2
  exact ⟨rfl, Below.refl _ _⟩
set_option maxRecDepth 100000 in
set_option maxHeartbeats 1000000 in
theorem take_arg (g : Nat) (x : Al) (n : Int) (w : World) (h : Am w g x) (hn : n < 0 ∨ 65536 < n) : Calls Try.prog 18 #[.pointer (some ⟨g, 0, none⟩), .int .i64 n] w fun e w' => e = .returned (.tuple #[.slice none 0 0, .int .i64 2]) ∧ Below w.heap.size w w' := by
  have HN := Lib.hid (none_any _ _ _ h.sa)
  rw [show decide (x.r = 0) = false by have := h.2.1; simp; omega] at HN
  clear h
  by_cases h0 : n < 0
  · clear hn
    go_enter Try.func18, Try.ntmps18
    go_wp2_with fail
    refine HN.out.mono ?_
    rintro e w1 ⟨rfl, rfl⟩
    go_wp2_with fail
    go_ret2
    exact ⟨rfl, Below.refl _ _⟩
  · have h1 : 65536 < n := by omega
    clear hn
    go_enter Try.func18, Try.ntmps18
    go_wp2_with fail
    refine HN.out.mono ?_
    rintro e w1 ⟨rfl, rfl⟩
    go_wp2_with fail
    go_ret2
    exact ⟨rfl, Below.refl _ _⟩
set_option maxRecDepth 100000 in
set_option maxHeartbeats 1000000 in
theorem take_end (g : Nat) (x : Al) (n : Int) (w : World) (h : Am w g x) (h0 : 0 ≤ n) (h1 : n ≤ 65536) (he : x.e - x.l < n) : Calls Try.prog 18 #[.pointer (some ⟨g, 0, none⟩), .int .i64 n] w fun e w' => e = .returned (.tuple #[.slice none 0 0, .int .i64 14]) ∧ Below w.heap.size w w' := by
  have HN := Lib.hid (none_any _ _ _ h.sa)
  rw [show decide (x.r = 0) = false by have := h.2.1; simp; omega] at HN
  have HL := Lib.hid (left_any _ _ _ h.sa)
  generalize hz : x.e - x.l = z at *
  clear h hz
  go_enter Try.func18, Try.ntmps18
  go_wp2_with fail
  refine HN.out.mono ?_
  rintro e w1 ⟨rfl, rfl⟩
  go_wp2_with fail
  refine HL.out.mono ?_
  rintro e w2 ⟨rfl, hl⟩
  have HB := Lib.hid hl.bel
  clear hl
  go_wp2_with fail
  go_ret2
  exact ⟨rfl, HB.out⟩
set_option maxRecDepth 100000 in
set_option maxHeartbeats 2000000 in
theorem take_no (g : Nat) (x : Al) (n : Nat) (w : World) (h : Am w g x) (h1 : n ≤ 65536) (he : (n : Int) ≤ x.e - x.l) : Calls Try.prog 18 #[.pointer (some ⟨g, 0, none⟩), .int .i64 (n : Int)] w fun e w' => ∃ b, e = .returned (.tuple #[.slice (some ⟨b, 0, none⟩) n n, .int .i64 0]) ∧ RowD w' (some ⟨b, 0, none⟩) (dotsA x.r x.l n) ∧ w.heap.size ≤ b ∧ Am w' g ⟨x.r, x.l + n, x.e⟩ ∧ w.grownBy w' (some g) := by
  have HN := Lib.hid (none_any _ _ _ h.sa)
  rw [show decide (x.r = 0) = false by have := h.2.1; simp; omega] at HN
  have HL := Lib.hid (left_any _ _ _ h.sa)
  have HH := Lib.hid h
  have HE := Lib.hid he
  have hn : (n : Int) ≤ 65536 := by omega
  have hg := h.1.lt
  have hlt : ¬ x.e - x.l < (n : Int) := by omega
  generalize hz : x.e - x.l = z at *
  replace hz := Lib.hid hz
  clear h h1 he
  go_enter Try.func18, Try.ntmps18
  go_wp2_with fail
  refine HN.out.mono ?_
  rintro e w1 ⟨rfl, rfl⟩
  go_wp2_with fail
  refine HL.out.mono ?_
  rintro e w2 ⟨rfl, hl⟩
  have HB := Lib.hid hl.bel
  clear hl
  obtain ⟨i0, hi0, hz0, hz1, hz2⟩ := G.info_of infoD
  go_wp2_with (refine wpList_make_full _ rfl _ _ _ rfl w2.heap.size 39 i0 (.agg #[.int .i64 0, .int .i64 0]) 2 Try.underlying46 hi0 hz0 hz1 .i64 .i64 _ _ n rfl rfl rfl rfl (by rw [hz2]; omega) (by unfold maxLen; omega) (Nat.le_refl _) ?_)
  intro w3 hown hg3
  have hbl : w2.heap.size < w3.heap.size := by
    have h := World.ownsRow.lt hown w2.heap.size rfl
    exact h.2
  have HR := Lib.hid (rw_made hown hbl x.r x.l)
  have HA : Hid (A3 w3 g ⟨x.r, x.l + ((0 : Nat) : Int), x.e⟩) := by
    have := (HH.out.keep (HB.out.trans (⟨hg3.os, hg3.tape, hg3.output, hg3.size, fun i hi => hg3.block i (Nat.lt_of_lt_of_le hi HB.out.size) (by simp)⟩))).1
    show A3 _ _ _
    rw [show x.l + ((0 : Nat) : Int) = x.l by omega]
    exact this
  have HG : Hid (w1.grownBy w3 (some g)) := gb_row (gb_trans (gb_below HB.out none) hg3)
  have HZ : Hid (w1.heap.size ≤ w2.heap.size) := HB.out.size
  clear hown hg3 hi0 hz0 hz1 hz2 HL HN HB hbl
  generalize w2.heap.size = b at *
  go_wp2_with fail
  go_loopw [24] (fun i wr => ∃ k : Nat, k ≤ n ∧ i = .int .i64 (k : Int) ∧ Hid (A3 wr g ⟨x.r, x.l + (k : Int), x.e⟩) ∧ Hid (Rw wr b n (fillA x.r x.l k)) ∧ Hid (w1.grownBy wr (some g))) (fun i _ => n - (intOf i).toNat)
  case atStart => exact ⟨0, Nat.zero_le _, rfl, HA, HR, HG⟩
  case round =>
    obtain ⟨k, hk, rfl, HA, HR, HG⟩ := hrel
    by_cases hlt : k < n
    · have hkn : (k : Int) < (n : Int) := by omega
      have hix := ix_dot0 b n n k (k : Int) rfl hlt
      have HGv := Lib.hid (give_any g _ wr HA.out (by have := HH.out.2.2.2.1; simp only; omega) (by have := HH.out.2; unfold Va at this; have := HE.out; have := hz.out; simp only; omega))
      simp only at HGv
      have HY : Hid (x.l + 1 + (k : Int) = x.l + (k : Int) + 1) := by show _ = _; omega
      generalize x.l + (k : Int) + 1 = y at *
      go_wp2_with fail
      refine HGv.out.mono ?_
      rintro e w4 ⟨rfl, ha, hg4⟩
      have HA4 := Lib.hid ha
      have HR4 := Lib.hid (HR.out.gb hg4 (by have := HZ.out; omega))
      have HG4 := Lib.hid (gb_trans HG.out hg4)
      clear ha hg4 HGv HA HR HG
      obtain ⟨k0, k1, f0, f1⟩ := HR4.out.2 k hlt
      go_wp2_with fail
      go_roundw
      case rel =>
        have hz := HZ.out
        refine ⟨k + 1, by omega, by go_num, ?_, ?_, gb_new (gb_new HG4.out hz _ _) hz _ _⟩
        · rw [show x.l + ((k + 1 : Nat) : Int) = y by have := HY.out; omega]
          exact (HA4.out.gb (gb_setCell _ _ _ _) (by omega)).gb (gb_setCell _ _ _ _) (by omega)
        · refine (HR4.out.put k hlt (x.r, y)).congr fun i hi => ?_
          unfold fillA
          have hy := HY.out
          by_cases e : i = k
          · subst e
            rw [if_pos rfl, if_pos (by omega), hy]
          · rw [if_neg e]
            by_cases e2 : i < k
            · rw [if_pos e2, if_pos (by omega)]
            · rw [if_neg e2, if_neg (by omega)]
      case measure => simp [intOf]; omega
    · obtain rfl : k = n := by omega
      go_wp2_with fail
      go_ret2
      exact ⟨b, rfl, rw_dots HR.out, HZ.out, ⟨HA.out, by
        obtain ⟨h1, h2, h3, h4, h5⟩ := HH.out.2
        have := HE.out
        have := hz.out
        exact ⟨h1, h2, by simp only; omega, by simp only; omega, h5⟩⟩, HG.out⟩
/-- Take, in the plain function's words. -/
theorem take_all (g : Nat) (x : Al) (n : Int) (w : World) (h : Am w g x) : Calls Try.prog 18 #[.pointer (some ⟨g, 0, none⟩), .int .i64 n] w fun e w' => ∃ a c, e = .returned (.tuple #[.slice a (takeA x n).2.1.length c, .int .i64 (takeA x n).2.2]) ∧ RowD w' a (takeA x n).2.1 ∧ (a = none → c = 0) ∧ (takeA x n).2.1.length ≤ c ∧ Am w' g (takeA x n).1 ∧ w.grownBy w' (some g) := by
  by_cases h1 : n < 0 ∨ 65536 < n
  · rw [show takeA x n = (x, [], 2) by unfold takeA; rw [if_pos h1]]
    refine (take_arg g x n w h h1).mono ?_
    rintro e w' ⟨rfl, hb⟩
    exact ⟨none, 0, rfl, RowD.nil _ _, fun _ => rfl, Nat.le_refl _, h.keep hb, gb_below hb _⟩
  · by_cases h2 : x.e - x.l < n
    · rw [show takeA x n = (x, [], 14) by unfold takeA; rw [if_neg h1, if_pos h2]]
      refine (take_end g x n w h (by omega) (by omega) h2).mono ?_
      rintro e w' ⟨rfl, hb⟩
      exact ⟨none, 0, rfl, RowD.nil _ _, fun _ => rfl, Nat.le_refl _, h.keep hb, gb_below hb _⟩
    · obtain ⟨m, rfl⟩ := Int.eq_ofNat_of_zero_le (show 0 ≤ n by omega)
      have e : takeA x (m : Int) = (⟨x.r, x.l + m, x.e⟩, dotsA x.r x.l m, 0) := by unfold takeA; rw [if_neg h1, if_neg h2]; rfl
      rw [e]
      refine (take_no g x m w h (by omega) (by omega)).mono ?_
      rintro e w' ⟨b, rfl, hr, hb, ha, hg⟩
      exact ⟨_, m, by rw [dotsA_len], hr, (fun h => by cases h), by rw [dotsA_len]; exact Nat.le_refl _, ha, hg⟩
def headD (l : List Dt) : Dt := l.headD (0, 0)
/-- Next, in the plain function's words. -/
theorem next_all (g : Nat) (x : Al) (w : World) (h : Am w g x) : Calls Try.prog 15 #[.pointer (some ⟨g, 0, none⟩)] w fun e w' => e = .returned (.tuple #[dv (headD (takeA x 1).2.1), .int .i64 (takeA x 1).2.2]) ∧ Am w' g (takeA x 1).1 ∧ w.grownBy w' (some g) := by
  rw [take_one]
  have hl := h.2.2.2.2.1
  by_cases h2 : x.e - x.l < 1
  · rw [if_pos h2]
    refine (next_end g x w h (by omega)).mono ?_
    rintro e w' ⟨rfl, hb⟩
    exact ⟨rfl, h.keep hb, gb_below hb _⟩
  · rw [if_neg h2]
    refine (next_no g x w h (by omega)).mono ?_
    rintro e w' ⟨rfl, ha, hg⟩
    exact ⟨rfl, ha, hg⟩

/-! ### Extend, Pass -/
set_option maxRecDepth 100000 in
set_option maxHeartbeats 1000000 in
theorem ext_yes (a : Option Addr) (l e n : Int) (w : World) (h : Sa w a ⟨0, l, e⟩) : Calls Try.prog 16 #[.pointer a, .int .i64 n] w fun e w' => e = .returned (.int .i64 1) ∧ Below w.heap.size w w' := by
  have HN := Lib.hid (none_any _ _ _ h)
  clear h
  go_enter Try.func16, Try.ntmps16
  go_wp2_with fail
  refine HN.out.mono ?_
  rintro e w1 ⟨rfl, rfl⟩
  go_wp2_with fail
  go_ret
  exact ⟨rfl, Below.refl _ _⟩
set_option maxRecDepth 100000 in
set_option maxHeartbeats 1000000 in
theorem pass_yes (a : Option Addr) (l e n : Int) (w : World) (h : Sa w a ⟨0, l, e⟩) : Calls Try.prog 24 #[.pointer a, .int .i64 n] w fun e w' => e = .returned (.int .i64 1) ∧ Below w.heap.size w w' := by
  have HN := Lib.hid (none_any _ _ _ h)
  clear h
  go_enter Try.func24, Try.ntmps24
  go_wp2_with fail
  refine HN.out.mono ?_
  rintro e w1 ⟨rfl, rfl⟩
  go_wp2_with fail
  go_ret
  exact ⟨rfl, Below.refl _ _⟩
set_option maxRecDepth 100000 in
set_option maxHeartbeats 1000000 in
theorem ext_all (g : Nat) (x : Al) (n : Int) (w : World) (h : Am w g x) : Calls Try.prog 16 #[.pointer (some ⟨g, 0, none⟩), .int .i64 n] w fun e w' => e = .returned (.int .i64 (extA x n).2) ∧ Am w' g (extA x n).1 ∧ w.grownBy w' (some g) := by
  have HN := Lib.hid (none_any _ _ _ h.sa)
  rw [show decide (x.r = 0) = false by have := h.2.1; simp; omega] at HN
  have HH := Lib.hid h
  have k0 := h.1.c0
  have k2 := h.1.c2
  have hv := h.2
  unfold Va at hv
  clear h
  by_cases h0 : n < x.e
  · rw [show extA x n = (x, 2) by unfold extA; rw [if_pos (.inl h0)]]
    obtain ⟨r, l, e⟩ := x
    simp only at *
    clear hv
    go_enter Try.func16, Try.ntmps16
    go_wp2_with fail
    refine HN.out.mono ?_
    rintro e w1 ⟨rfl, rfl⟩
    go_wp2_with fail
    go_ret
    exact ⟨rfl, HH.out, gb_refl _ _⟩
  · have HC := Lib.hid (canEnd_any x.r n w (by omega))
    by_cases h1 : 4294967295 < n
    · rw [show extA x n = (x, 2) by unfold extA; rw [if_pos (.inr h1)]]
      rw [show endR x.r n = false by unfold endR; simp; omega] at HC
      obtain ⟨r, l, e⟩ := x
      simp only at *
      clear hv
      go_enter Try.func16, Try.ntmps16
      go_wp2_with fail
      refine HN.out.mono ?_
      rintro e w1 ⟨rfl, rfl⟩
      go_wp2_with fail
      refine HC.out.mono ?_
      rintro e w2 ⟨rfl, hl⟩
      have HB := Lib.hid hl.bel
      clear hl
      go_wp2_with fail
      go_ret
      exact ⟨rfl, HH.out.keep HB.out, gb_below HB.out _⟩
    · rw [show extA x n = (⟨x.r, x.l, n⟩, 0) by unfold extA; rw [if_neg (by omega)]]
      rw [show endR x.r n = true by unfold endR; simp; omega] at HC
      have HV : Hid (Va ⟨x.r, x.l, n⟩) := ⟨hv.1, hv.2.1, hv.2.2.1, by simp only; omega, by simp only; omega⟩
      obtain ⟨r, l, e⟩ := x
      simp only at *
      clear hv
      go_enter Try.func16, Try.ntmps16
      go_wp2_with fail
      refine HN.out.mono ?_
      rintro e w1 ⟨rfl, rfl⟩
      go_wp2_with fail
      refine HC.out.mono ?_
      rintro e w2 ⟨rfl, hl⟩
      have HB := Lib.hid hl.bel
      have HH2 := Lib.hid (HH.out.keep hl.bel)
      have f2 := HH2.out.1.free 2
      replace k2 := HH2.out.1.c2
      clear hl k0
      go_wp2_with fail
      go_ret
      exact ⟨rfl, ⟨HH2.out.1.set2 n, HV.out⟩, gb_trans (gb_below HB.out _) (gb_setCell _ _ _ _)⟩
set_option maxRecDepth 100000 in
set_option maxHeartbeats 1000000 in
theorem pass_all (g : Nat) (x : Al) (n : Int) (w : World) (h : Am w g x) : Calls Try.prog 24 #[.pointer (some ⟨g, 0, none⟩), .int .i64 n] w fun e w' => e = .returned (.int .i64 (passA x n).2) ∧ Am w' g (passA x n).1 ∧ w.grownBy w' (some g) := by
  have HN := Lib.hid (none_any _ _ _ h.sa)
  rw [show decide (x.r = 0) = false by have := h.2.1; simp; omega] at HN
  have HH := Lib.hid h
  have k1 := h.1.c1
  have k2 := h.1.c2
  have f1 := h.1.free 1
  have hv := h.2
  unfold Va at hv
  clear h
  by_cases h0 : n < 0
  · rw [show passA x n = (x, 2) by unfold passA; rw [if_pos h0]]
    obtain ⟨r, l, e⟩ := x
    simp only at *
    clear hv
    go_enter Try.func24, Try.ntmps24
    go_wp2_with fail
    refine HN.out.mono ?_
    rintro e w1 ⟨rfl, rfl⟩
    go_wp2_with fail
    go_ret
    exact ⟨rfl, HH.out, gb_refl _ _⟩
  · by_cases h1 : x.e < n
    · rw [show passA x n = (x, 3) by unfold passA; rw [if_neg h0, if_pos h1]]
      obtain ⟨r, l, e⟩ := x
      simp only at *
      clear hv
      go_enter Try.func24, Try.ntmps24
      go_wp2_with fail
      refine HN.out.mono ?_
      rintro e w1 ⟨rfl, rfl⟩
      go_wp2_with fail
      go_ret
      exact ⟨rfl, HH.out, gb_refl _ _⟩
    · by_cases h2 : x.l < n
      · rw [show passA x n = (⟨x.r, n, x.e⟩, 0) by unfold passA; rw [if_neg h0, if_neg h1, if_pos h2]]
        have HV : Hid (Va ⟨x.r, n, x.e⟩) := ⟨hv.1, hv.2.1, by simp only; omega, by simp only; omega, hv.2.2.2.2⟩
        obtain ⟨r, l, e⟩ := x
        simp only at *
        clear hv
        go_enter Try.func24, Try.ntmps24
        go_wp2_with fail
        refine HN.out.mono ?_
        rintro e w1 ⟨rfl, rfl⟩
        go_wp2_with fail
        go_ret
        exact ⟨rfl, ⟨HH.out.1.set1 n, HV.out⟩, gb_setCell _ _ _ _⟩
      · rw [show passA x n = (x, 0) by unfold passA; rw [if_neg h0, if_neg h1, if_neg h2]]
        obtain ⟨r, l, e⟩ := x
        simp only at *
        clear hv
        go_enter Try.func24, Try.ntmps24
        go_wp2_with fail
        refine HN.out.mono ?_
        rintro e w1 ⟨rfl, rfl⟩
        go_wp2_with fail
        go_ret
        exact ⟨rfl, ⟨HH.out.1.set1 l, HH.out.2⟩, gb_setCell _ _ _ _⟩
end Go.Proofs.Ytkbbbjcigjlopaa.H
