/-
  VarintHolds: every list of parts and every bytes give true.
-/
import Derived.Test.YtjkiollopajmoaaVHoldsA
import Derived.Deep.RegionWith
import Derived.RegionTactic
import Derived.Deep.CutRange
import Derived.Deep.CutBlock
import Derived.Test.YtjkiollopajmoaaSched
namespace Go.Proofs.Ytjkiollopajmoaa.V
set_option linter.unusedVariables false
open Go.RowKit

theorem left_at (base : Nat) (w0 : World) (r : Nat) (l : List UInt8) (p : Nat) (y : Int) (hy : y = (l.length : Int) - (p : Int)) (w : World) (h : Rd w r ⟨l.toArray⟩ p) (hB : Below base w0 w) :
    Calls Try.prog 34 #[.pointer (some ⟨r, 0, none⟩)] w fun e w' => e = .returned (.int .i64 y) ∧ Below base w0 w' ∧ w.grownBy w' none := by
  subst hy
  refine (left_no w r _ p h).mono ?_
  rintro e w' ⟨rfl, n, rfl⟩
  have := h.2.1
  simp only [ByteArray.size, List.size_toArray] at this ⊢
  exact ⟨by rw [Int.ofNat_sub this], ⟨hB.os, hB.tape, hB.output, hB.size, hB.block⟩, gb_drewN _ _ _⟩
theorem Wr.gbN {w w' : World} {base b : Nat} {v : Value} {l : List UInt8} (h : Wr w base b v l) (hg : w.grownBy w' none) : Wr w' base b v l :=
  h.gb hg (by simp) (by rcases v.ownBlock with _ | k; exact .inl rfl; exact .inr (by simp))
theorem Rd.gbN {w w' : World} {r p : Nat} {s : ByteArray} (h : Rd w r s p) (hg : w.grownBy w' none) : Rd w' r s p := h.of_heap (hg.block r h.lt (by simp))
theorem Wr.gbR {w w' : World} {base b r : Nat} {v : Value} {l : List UInt8} (h : Wr w base b v l) (hg : w.grownBy w' (some r)) (hb : b ≠ r) (hv : ∀ g, v.ownBlock = some g → g ≠ r) : Wr w' base b v l :=
  h.gb hg (by simpa using hb) (by
    rcases hvo : v.ownBlock with _ | k
    · exact .inl rfl
    · exact .inr (by simpa using hv k hvo))

theorem Rd.wf {w w' : World} {r p b : Nat} {s : ByteArray} {v : Value} (h : Rd w r s p) (hf : Wf w w' b v) (h1 : r ≠ b) (h2 : some r ≠ v.ownBlock) : Rd w' r s p := h.of_heap (hf.block r h.lt h1 h2)

set_option maxRecDepth 100000 in
set_option maxHeartbeats 8000000 in
theorem holds_walk (a0 : Option Addr) (len0 cap0 : Nat) (q : Nat → PartV) (a1 : Option Addr) (len1 cap1 : Nat) (z1 : List Int) (w : World) (h0 : IsParts w a0 len0 q) (h1 : IsRow .u8 w a1 len1 cap1 z1) :
    Calls Try.prog 8 #[.slice a0 len0 cap0, .slice a1 len1 cap1] w fun e w' => e = .returned (.bool true) ∧ Below w.heap.size w w' := by
  have HS := Lib.hid (small_any w a0 len0 cap0 q h0)
  obtain ⟨hm0, hfit, hq⟩ := h0
  have HQ := Lib.hid hq
  have HF := Lib.hid hfit
  have hm1 := (isRow_len h1).1
  have hcap : len1 ≤ cap1 := by
    rcases h1 with ⟨_, rfl, rfl, _⟩ | ⟨_, _, h, _⟩
    · omega
    · exact h
  obtain ⟨l, rfl, hr1⟩ := isRow_bytes h1
  have HR1 := Lib.hid hr1
  clear hq hfit hr1 h1
  by_cases h300 : 300 < l.length
  · go_enter Try.func8, Try.ntmps8
    go_wp2_with fail
    go_fit HS.out
    rintro e w' ⟨bb, rfl, hbb, rfl⟩
    rcases bb with _ | _
    all_goals
      go_wp2_with (go_at_call 20; refine (known_any _).mono ?_; rintro e w' ⟨rfl, hb⟩)
      go_ret
      exact ⟨rfl, hb⟩
  go_enter Try.func8, Try.ntmps8
  go_wp2_with fail
  go_fit HS.out
  rintro e w' ⟨bb, rfl, hbb, rfl⟩
  rcases bb with _ | _
  · go_wp2_with (go_at_call 20; refine (known_any _).mono ?_; rintro e w' ⟨rfl, hb⟩)
    go_ret
    exact ⟨rfl, hb⟩
  obtain ⟨h40, hd⟩ := hbb rfl
  have HD := Lib.hid hd
  have hcl := cat_le q len0 HF.out hd
  have HCl := Lib.hid hcl
  have hW0 := wr_new w w.heap.size 40 (Nat.le_refl _)
  have hB0 : Below w.heap.size w (w.alloc (.cells #[.slice none 0 0] 40)) := (Below.refl _ _).alloc (Nat.le_refl _) _
  have HW0 := Lib.hid hW0
  have HB0 := Lib.hid hB0
  clear hbb hd hcl hW0 hB0 HS
  go_wp2_with fail
  go_loopw [29] (fun i wr => ∃ (k : Nat) (v : Value), k ≤ len0 ∧ i = .int .i64 k ∧ Wr wr w.heap.size w.heap.size v (cat q k) ∧ Below w.heap.size w wr) (fun i _ => len0 - (intOf i).toNat)
  case atStart => exact ⟨0, _, by omega, rfl, HW0.out, HB0.out⟩
  case round =>
    obtain ⟨k, v, hk, rfl, hw, hB⟩ := hrel
    have HW := Lib.hid hw
    have HB := Lib.hid hB
    have hwlt := hw.lt
    have hclk : (cat q k).length ≤ 12400 := by have := HCl.out k hk; omega
    have HClk := Lib.hid hclk
    clear hw hB hclk
    by_cases hlt : k < len0
    · obtain ⟨b, o, rfl, hc⟩ := HQ.out.resolve_left (by omega)
      obtain ⟨c0, c1, c2, c3, hrow⟩ := hc k hlt
      obtain ⟨hn64, hs64, hdn, hdc, hdl⟩ := HF.out k hlt
      have hd300 := HD.out k hlt
      have hcat : cat q (k + 1) = cat q k ++ pb (q k).what (q k).n (q k).s (q k).d := rfl
      generalize (q k).what = what at *
      generalize (q k).n = n at *
      generalize (q k).s = s at *
      generalize (q k).a = ad at *
      generalize (q k).d = d at *
      generalize (q k).c = cd at *
      rw [← HB.out.cell (p := ⟨b, _, none⟩) (lt_of_cell c0)] at c0
      rw [← HB.out.cell (p := ⟨b, _, none⟩) (lt_of_cell c1)] at c1
      rw [← HB.out.cell (p := ⟨b, _, none⟩) (lt_of_cell c2)] at c2
      rw [← HB.out.cell (p := ⟨b, _, none⟩) (lt_of_cell c3)] at c3
      have HRow := Lib.hid hrow
      have HCat := Lib.hid hcat
      have HDn := Lib.hid hdn
      have HHs := Lib.hid hs64
      have hz64 := zig_lt hs64.1 hs64.2
      clear hc hrow hcat hdn hs64
      go_upto_region 7 with fail
      have hba : Below wr.heap.size wr (wr.alloc (.cells #[.int .i64 what, .int .u64 (n : Int), .int .i64 s, .slice ad d.length cd] 42)) := (Below.refl _ _).alloc (Nat.le_refl _) _
      have hbx := Bx.new wr (.int .i64 what) (.int .u64 (n : Int)) (.int .i64 s) (.slice ad d.length cd) 42
      have hsz : (wr.alloc (.cells #[.int .i64 what, .int .u64 (n : Int), .int .i64 s, .slice ad d.length cd] 42)).heap.size = wr.heap.size + 1 := by simp
      generalize wr.alloc (.cells #[.int .i64 what, .int .u64 (n : Int), .int .i64 s, .slice ad d.length cd] 42) = wa at *
      have HWa := Lib.hid (HW.out.keep hba)
      have HBa := Lib.hid (HB.out.trans (hba.mono HB.out.size))
      have HRa := Lib.hid (HRow.out.keep HBa.out)
      have HBx := Lib.hid hbx
      obtain ⟨e0, e1, e2, e3⟩ := hbx.cells
      have hne : ∀ b' o', ad = some ⟨b', o', none⟩ → d ≠ [] → b' ≠ w.heap.size ∧ some b' ≠ v.ownBlock := by
        intro b' o' e hd
        subst e
        obtain ⟨b2, o2, e, hc⟩ := HRow.out.resolve_left hd
        cases e
        have := lt_of_cell (hc 0 (List.length_pos_iff.2 hd))
        simp only at this
        exact ⟨by omega, fun e2 => by have := (HWa.out.2.1.lt b' e2.symm).1; omega⟩
      have HNe := Lib.hid hne
      generalize wr.heap.size = gx at *
      clear hba hbx HW HB c0 c1 c2 c3 hne HRow
      go_cut [39] from 33 to 39 (fun x wx => x = .bool false ∧ wx = wa.drew)
      case first =>
        go_region_with (first | (go_at_call 14; refine (zig_any s _ HHs.out.1 HHs.out.2).mono ?_; rintro e w' ⟨rfl, rfl⟩) | (go_at_call 12; refine (zag_of (zig s) (zig s : Int) s _ rfl hz64 (zag_zig s)).mono ?_; rintro e w' ⟨rfl, rfl⟩))
        all_goals (go_wp2_with fail; go_meet)
        all_goals exact ⟨rfl, rfl⟩
      case rest =>
        obtain ⟨rfl, rfl⟩ := hcut
        have HC := Lib.hid (write_any wa.drew w.heap.size w.heap.size v (cat q k) what n s (.slice ad d.length cd) ad d cd HWa.out hn64 HHs.out HRa.out HDn.out HNe.out (by have := HClk.out; omega) (by show w.heap.size ≤ wa.heap.size; omega))
        go_wp2_with (go_at_call 22; go_fit HC.out; rintro e w8 ⟨rfl, v8, hw8, hf8, hg8⟩)
        go_roundw
        case rel =>
          exact ⟨k + 1, v8, by omega, by go_num, by rw [HCat.out]; exact hw8, hf8.below HBa.out.drew (by show w.heap.size ≤ wa.heap.size; omega) (Nat.le_refl _) (fun g hg => (HWa.out.2.1.lt g hg).1)⟩
        case measure => simp [intOf]; omega
    · obtain rfl : k = len0 := by omega
      have hend : ¬ (k : Int) < (k : Int) := by omega
      obtain ⟨L, hL⟩ : ∃ L, L = cat q k := ⟨_, rfl⟩
      rw [← hL] at HW HClk
      have HL := Lib.hid hL
      have hL12 := HClk.out
      have HC := Lib.hid (wbytes_any wr w.heap.size w.heap.size v L HW.out (by omega))
      clear hL HW0 HB0 HClk
      go_upto_region 12 with (first | (go_at_call 24; go_fit HC.out; rintro e w2 ⟨v2, rfl, ho2, hb2⟩; obtain ⟨a2, c2, rfl, hrow2, -, -⟩ := ho2.row; have HW2 := Lib.hid (HW.out.keep hb2); have HB2 := Lib.hid (HB.out.trans (hb2.mono HB.out.size)); have HN := Lib.hid (new_of w2 a2 L c2 (by omega) hrow2)) | (go_at_call 15; go_fit HN.out; rintro e w3 ⟨r, rfl, hle3, hR3, hb3⟩))
      have HW3 := Lib.hid (HW2.out.keep hb3)
      have HB3 := Lib.hid (HB2.out.trans (hb3.mono HB2.out.size))
      have HV3 := Lib.hid (fun g hg => Nat.lt_of_lt_of_le (HW2.out.2.1.lt g hg).2 hle3)
      have hrb : w.heap.size < r := Nat.lt_of_lt_of_le HW2.out.lt hle3
      have HR3 := Lib.hid hR3
      clear HC HN ho2 hb2 hrow2 HW2 HB2 HW HB hb3 hle3 hR3
      have HL0 := Lib.hid (left_at w.heap.size w r L 0 (L.length : Int) (by simp) w3 HR3.out HB3.out)
      go_wp2_with fail
      go_fit HL0.out
      rintro e w4 ⟨rfl, hB4, hG4⟩
      have HW4 := Lib.hid (HW3.out.gbN hG4)
      have HR4 := Lib.hid (HR3.out.gbN hG4)
      have HB4 := Lib.hid hB4
      have HLn := Lib.hid (wlen_any w4 w.heap.size w.heap.size v L HW4.out)
      clear hB4 hG4 HW3 HR3 HB3 HL0
      go_wp2_with (go_at_call 25; go_fit HLn.out; rintro e w' ⟨rfl, rfl⟩)
      clear HLn
      obtain ⟨wo, rfl⟩ : ∃ wo : World, wo = wr := ⟨_, rfl⟩
      go_loopw [57] (fun i wy => ∃ j p : Nat, j ≤ k ∧ i = .int .i64 j ∧ p = (cat q j).length ∧ Rd wy r ⟨L.toArray⟩ p ∧ Wr wy w.heap.size w.heap.size v L ∧ Below w.heap.size w wy) (fun i _ => k - (intOf i).toNat)
      case atStart => exact ⟨0, 0, by omega, rfl, rfl, HR4.out, HW4.out, HB4.out⟩
      case round =>
        obtain ⟨j, p, hj, rfl, hjp, hR, hw, hB⟩ := hrel
        have HR := Lib.hid hR
        have HW := Lib.hid hw
        have HB := Lib.hid hB
        have HJ := Lib.hid hjp
        clear hR hw hB hjp HR4 HW4 HB4
        by_cases hlt2 : j < k
        · obtain ⟨b, o, rfl, hc⟩ := HQ.out.resolve_left (by omega)
          obtain ⟨c0, c1, c2, c3, hrow⟩ := hc j hlt2
          obtain ⟨hn64, hs64, hdn, hdc, hdl⟩ := HF.out j hlt2
          have hd300 := HD.out j hlt2
          have hcat : cat q (j + 1) = cat q j ++ pb (q j).what (q j).n (q j).s (q j).d := rfl
          obtain ⟨t, hdr⟩ := cat_drop q j k hlt2
          rw [← HL.out, ← HJ.out] at hdr
          unfold PartV.out at hdr
          generalize (q j).what = what at *
          generalize (q j).n = n at *
          generalize (q j).s = s at *
          generalize (q j).a = ad at *
          generalize (q j).d = d at *
          generalize (q j).c = cd at *
          rw [← HB.out.cell (p := ⟨b, _, none⟩) (lt_of_cell c0)] at c0
          rw [← HB.out.cell (p := ⟨b, _, none⟩) (lt_of_cell c1)] at c1
          rw [← HB.out.cell (p := ⟨b, _, none⟩) (lt_of_cell c2)] at c2
          rw [← HB.out.cell (p := ⟨b, _, none⟩) (lt_of_cell c3)] at c3
          have HRow := Lib.hid hrow
          have HCat := Lib.hid hcat
          have HHs := Lib.hid hs64
          have HDr := Lib.hid hdr
          clear hc hrow hcat hdn hs64 hdr
          go_upto_region 17 with fail
          have hdr := HDr.out
          have hba : Below wr.heap.size wr (wr.alloc (.cells #[.int .i64 what, .int .u64 (n : Int), .int .i64 s, .slice ad d.length cd] 42)) := (Below.refl _ _).alloc (Nat.le_refl _) _
          have hbx := Bx.new wr (.int .i64 what) (.int .u64 (n : Int)) (.int .i64 s) (.slice ad d.length cd) 42
          generalize wr.alloc (.cells #[.int .i64 what, .int .u64 (n : Int), .int .i64 s, .slice ad d.length cd] 42) = wa at *
          have HWa := Lib.hid (HW.out.keep hba)
          have HBa := Lib.hid (HB.out.trans (hba.mono HB.out.size))
          have HRa := Lib.hid (HR.out.keep hba)
          have HBx := Lib.hid hbx
          have hcv := conv_row (P := Try.prog) (HRow.out.keep HBa.out) cd 23 9 5 Try.underlying23 Try.underlying5 Try.underlying9
          obtain ⟨e0, e1, e2, e3⟩ := hbx.cells
          generalize wr.heap.size = gx at *
          obtain ⟨P, hP⟩ : ∃ P, P = p + (pb what n s d).length := ⟨_, rfl⟩
          have HP0 := Lib.hid hP
          clear hba hbx HW HB HR c0 c1 c2 c3 HRow HDr
          by_cases h0 : what = 0
          · subst h0
            have hp : pb 0 n s d = num n := rfl
            rw [hp] at hP hdr
            have HPc := Lib.hid (part_reads n hn64 HRa.out hdr)
            rw [← hP] at HPc
            clear hp hdr 
            go_upto_region 26 with (go_at_call 16; go_fit HPc.out; rintro e w5 ⟨rfl, hR5, hG5⟩)
            have HR5 := Lib.hid hR5
            have HW5 := Lib.hid (HWa.out.gbR hG5 (by omega) (fun g hg => by have := HV3.out g hg; omega))
            have HB5 := Lib.hid (below_gb HBa.out hG5 HBa.out.size (by omega))
            have hPL := hR5.2.1
            simp only [ByteArray.size, List.size_toArray] at hPL
            obtain ⟨y, hy⟩ : ∃ y : Int, y = (L.length : Int) - (P : Int) := ⟨_, rfl⟩
            have hsum : (P : Int) + y = (L.length : Int) := by omega
            have hy1 : 0 ≤ y ∧ y ≤ 12400 := by omega
            have HAt := Lib.hid (at_no w5 r _ P HR5.out)
            have HLf := Lib.hid (left_at w.heap.size w r L P y hy w5 HR5.out HB5.out)
            clear hR5 hG5 HPc hy hP HWa HBa HRa HBx hcv
            go_wp2_with fail
            go_fit HAt.out
            rintro e w' ⟨rfl, rfl⟩
            go_wp2_with fail
            go_fit HLf.out
            rintro e w6 ⟨rfl, hB6, hG6⟩
            have HW6 := Lib.hid (HW5.out.gbN hG6)
            have HR6 := Lib.hid (HR5.out.gbN hG6)
            have HB6 := Lib.hid hB6
            have HLn := Lib.hid (wlen_any w6 w.heap.size w.heap.size v L HW6.out)
            clear hB6 hG6 HW5 HR5 HB5 HAt HLf
            go_wp2_with (go_at_call 25; go_fit HLn.out; rintro e w' ⟨rfl, rfl⟩)
            go_roundw
            case rel => exact ⟨j + 1, P, by omega, by go_num, by rw [HP0.out, HCat.out, List.length_append, ← HJ.out], HR6.out, HW6.out, HB6.out⟩
            case measure => simp [intOf]; omega
          by_cases h1 : what = 1
          · subst h1
            have hp : pb 1 n s d = num (zig s) := rfl
            rw [hp] at hP hdr
            have HPc := Lib.hid (part_signed s HHs.out HRa.out hdr)
            rw [← hP] at HPc
            clear hp hdr h0
            go_upto_region 26 with (go_at_call 18; go_fit HPc.out; rintro e w5 ⟨rfl, hR5, hG5⟩)
            have HR5 := Lib.hid hR5
            have HW5 := Lib.hid (HWa.out.gbR hG5 (by omega) (fun g hg => by have := HV3.out g hg; omega))
            have HB5 := Lib.hid (below_gb HBa.out hG5 HBa.out.size (by omega))
            have hPL := hR5.2.1
            simp only [ByteArray.size, List.size_toArray] at hPL
            obtain ⟨y, hy⟩ : ∃ y : Int, y = (L.length : Int) - (P : Int) := ⟨_, rfl⟩
            have hsum : (P : Int) + y = (L.length : Int) := by omega
            have hy1 : 0 ≤ y ∧ y ≤ 12400 := by omega
            have HAt := Lib.hid (at_no w5 r _ P HR5.out)
            have HLf := Lib.hid (left_at w.heap.size w r L P y hy w5 HR5.out HB5.out)
            clear hR5 hG5 HPc hy hP HWa HBa HRa HBx hcv
            go_wp2_with fail
            go_fit HAt.out
            rintro e w' ⟨rfl, rfl⟩
            go_wp2_with fail
            go_fit HLf.out
            rintro e w6 ⟨rfl, hB6, hG6⟩
            have HW6 := Lib.hid (HW5.out.gbN hG6)
            have HR6 := Lib.hid (HR5.out.gbN hG6)
            have HB6 := Lib.hid hB6
            have HLn := Lib.hid (wlen_any w6 w.heap.size w.heap.size v L HW6.out)
            clear hB6 hG6 HW5 HR5 HB5 HAt HLf
            go_wp2_with (go_at_call 25; go_fit HLn.out; rintro e w' ⟨rfl, rfl⟩)
            go_roundw
            case rel => exact ⟨j + 1, P, by omega, by go_num, by rw [HP0.out, HCat.out, List.length_append, ← HJ.out], HR6.out, HW6.out, HB6.out⟩
            case measure => simp [intOf]; omega
          by_cases h2 : what = 2
          · subst h2
            have hp : pb 2 n s d = num d.length ++ d := rfl
            rw [hp] at hP hdr
            have HPc := Lib.hid (part_hears d hd300 HRa.out hdr)
            rw [← hP] at HPc
            clear hp hdr h0 h1
            go_upto_region 26 with (go_at_call 35; go_fit HPc.out; rintro e w5 ⟨rfl, hR5, hG5⟩)
            have HR5 := Lib.hid hR5
            have HW5 := Lib.hid (HWa.out.gbR hG5 (by omega) (fun g hg => by have := HV3.out g hg; omega))
            have HB5 := Lib.hid (below_gb HBa.out hG5 HBa.out.size (by omega))
            have hPL := hR5.2.1
            simp only [ByteArray.size, List.size_toArray] at hPL
            obtain ⟨y, hy⟩ : ∃ y : Int, y = (L.length : Int) - (P : Int) := ⟨_, rfl⟩
            have hsum : (P : Int) + y = (L.length : Int) := by omega
            have hy1 : 0 ≤ y ∧ y ≤ 12400 := by omega
            have HAt := Lib.hid (at_no w5 r _ P HR5.out)
            have HLf := Lib.hid (left_at w.heap.size w r L P y hy w5 HR5.out HB5.out)
            clear hR5 hG5 HPc hy hP HWa HBa HRa HBx hcv
            go_wp2_with fail
            go_fit HAt.out
            rintro e w' ⟨rfl, rfl⟩
            go_wp2_with fail
            go_fit HLf.out
            rintro e w6 ⟨rfl, hB6, hG6⟩
            have HW6 := Lib.hid (HW5.out.gbN hG6)
            have HR6 := Lib.hid (HR5.out.gbN hG6)
            have HB6 := Lib.hid hB6
            have HLn := Lib.hid (wlen_any w6 w.heap.size w.heap.size v L HW6.out)
            clear hB6 hG6 HW5 HR5 HB5 HAt HLf
            go_wp2_with (go_at_call 25; go_fit HLn.out; rintro e w' ⟨rfl, rfl⟩)
            go_roundw
            case rel => exact ⟨j + 1, P, by omega, by go_num, by rw [HP0.out, HCat.out, List.length_append, ← HJ.out], HR6.out, HW6.out, HB6.out⟩
            case measure => simp [intOf]; omega
          · have hp : pb what n s d = d := by unfold pb; rw [if_neg h0, if_neg h1, if_neg h2]
            rw [hp] at hP hdr
            have HPc := Lib.hid (part_takes d HRa.out hdr)
            rw [← hP] at HPc
            clear hp hdr 
            go_upto_region 26 with (go_at_call 36; go_fit HPc.out; rintro e w5 ⟨rfl, hR5, hG5⟩)
            have HR5 := Lib.hid hR5
            have HW5 := Lib.hid (HWa.out.gbR hG5 (by omega) (fun g hg => by have := HV3.out g hg; omega))
            have HB5 := Lib.hid (below_gb HBa.out hG5 HBa.out.size (by omega))
            have hPL := hR5.2.1
            simp only [ByteArray.size, List.size_toArray] at hPL
            obtain ⟨y, hy⟩ : ∃ y : Int, y = (L.length : Int) - (P : Int) := ⟨_, rfl⟩
            have hsum : (P : Int) + y = (L.length : Int) := by omega
            have hy1 : 0 ≤ y ∧ y ≤ 12400 := by omega
            have HAt := Lib.hid (at_no w5 r _ P HR5.out)
            have HLf := Lib.hid (left_at w.heap.size w r L P y hy w5 HR5.out HB5.out)
            clear hR5 hG5 HPc hy hP HWa HBa HRa HBx hcv
            go_wp2_with fail
            go_fit HAt.out
            rintro e w' ⟨rfl, rfl⟩
            go_wp2_with fail
            go_fit HLf.out
            rintro e w6 ⟨rfl, hB6, hG6⟩
            have HW6 := Lib.hid (HW5.out.gbN hG6)
            have HR6 := Lib.hid (HR5.out.gbN hG6)
            have HB6 := Lib.hid hB6
            have HLn := Lib.hid (wlen_any w6 w.heap.size w.heap.size v L HW6.out)
            clear hB6 hG6 HW5 HR5 HB5 HAt HLf
            go_wp2_with (go_at_call 25; go_fit HLn.out; rintro e w' ⟨rfl, rfl⟩)
            go_roundw
            case rel => exact ⟨j + 1, P, by omega, by go_num, by rw [HP0.out, HCat.out, List.length_append, ← HJ.out], HR6.out, HW6.out, HB6.out⟩
            case measure => simp [intOf]; omega
        · obtain rfl : j = k := by omega
          have hend2 : ¬ (j : Int) < (j : Int) := by omega
          have hp : p = L.length := by rw [HL.out]; exact HJ.out
          subst hp
          have HFn := Lib.hid (fin_of w.heap.size w r L L.length 0 (if_pos rfl) wr HR.out HB.out)
          clear HW HQ HF HD HCl HJ
          go_wp2_with fail
          go_fit HFn.out
          rintro e w5 ⟨rfl, -, hB5⟩
          have HB5 := Lib.hid hB5
          have HN := Lib.hid (new_of w5 a1 l cap1 (by omega) (HR1.out.keep hB5))
          clear hB5 HFn HR HB
          go_wp2_with fail
          go_fit HN.out
          rintro e w6 ⟨x, rfl, hle6, hR6, hb6⟩
          have HB6 := Lib.hid (HB5.out.trans (hb6.mono HB5.out.size))
          have HR6 := Lib.hid hR6
          have hx6 := hR6.lt
          have hwx : w.heap.size ≤ x := Nat.le_trans HB5.out.size hle6
          have hW7 := wr_new w6 w6.heap.size 40 (Nat.le_refl _)
          have hB7 := HB6.out.alloc HB6.out.size (.cells #[.slice none 0 0] 40)
          have hR7 := HR6.out.keep (show Below w6.heap.size w6 (w6.alloc (.cells #[.slice none 0 0] 40)) from (Below.refl _ _).alloc (Nat.le_refl _) _)
          have HW7 := Lib.hid hW7
          have HB7 := Lib.hid hB7
          have HR7 := Lib.hid hR7
          clear hb6 hR6 hle6 hW7 hB7 hR7 HN HB5 HB6 HR6
          clear HL hL12 HV3
          go_upto_block 5 with fail
          generalize w6.alloc (.cells #[.slice none 0 0] 40) = w7 at *
          generalize w6.heap.size = bw at *
          go_cut [14, 15, 16] from 114 to 129 (fun _ _ _ wx => ∃ (p : Nat) (v : Value), Rd wx x ⟨l.toArray⟩ p ∧ Wr wx bw bw v (l.take p) ∧ Below w.heap.size w wx)
          case first =>
            go_wp2_with fail
            obtain ⟨wp, rfl⟩ : ∃ wp : World, wp = wr := ⟨_, rfl⟩
            go_loopw [14] (fun i wy => ∃ (j p : Nat) (v : Value), j ≤ l.length ∧ i = .int .i64 j ∧ Rd wy x ⟨l.toArray⟩ p ∧ Wr wy bw bw v (l.take p) ∧ Below w.heap.size w wy) (fun i _ => l.length - (intOf i).toNat)
            case atStart => exact ⟨0, 0, _, by omega, rfl, HR7.out, by simpa using HW7.out, HB7.out⟩
            case round =>
              obtain ⟨i, p, v, hi, rfl, hR, hw, hB⟩ := hrel
              have HR := Lib.hid hR
              have HW := Lib.hid hw
              have HB := Lib.hid hB
              have hbw := hw.lt
              have HC := Lib.hid (num_all wr x l p hR)
              clear hR hw hB HR7 HW7 HB7
              by_cases hlt3 : i < l.length
              · go_upto_region 38 with fail
                go_upto_region 39 with (go_at_call 30; go_fit HC.out; rintro e w8 ⟨n, er, rfl, hn, hG8, hcase⟩)
                have HW8 := Lib.hid (HW.out.gbR hG8 (by omega) (fun g hg => by have := (HW.out.2.1.lt g hg).1; omega))
                have HB8 := Lib.hid (below_gb HB.out hG8 HB.out.size hwx)
                have hs8 := hG8.size
                clear hG8 HW HB HR HC
                rcases hcase with ⟨her, hR8⟩ | ⟨rfl, hR8, htk⟩
                · have HR8 := Lib.hid hR8
                  have her2 : ¬ (er : Int) = 0 := by omega
                  have hb : ((er : Int) != 0) = true := by rw [bne_iff_ne]; omega
                  clear hR8 her
                  go_wp2_with fail
                  go_meet
                  exact ⟨p, v, HR8.out, HW8.out, HB8.out⟩
                · have HR8 := Lib.hid hR8
                  have HT := Lib.hid htk
                  have HC2 := Lib.hid (wnum_one w8 bw bw v (l.take p) n HW8.out hn (by rw [List.length_take]; omega) (by omega))
                  clear hR8 htk
                  go_wp2_with (go_at_call 26; go_fit (HC2.out _ _ rfl); rintro e w9 ⟨rfl, v9, hw9, hf9, hg9⟩)
                  go_roundw
                  case rel =>
                    exact ⟨i + 1, p + (num n).length, v9, by omega, by go_num, HR8.out.wf hf9 (by omega) (fun e => by have := (HW8.out.2.1.lt x e.symm).1; omega), by rw [HT.out]; exact hw9, hf9.below HB8.out HB8.out.size (by omega) (fun g hg => by have := (HW8.out.2.1.lt g hg).1; omega)⟩
                  case measure => simp [intOf]; omega
              · obtain rfl : i = l.length := by omega
                have hend3 : ¬ (l.length : Int) < (l.length : Int) := by omega
                clear HC
                go_wp2_with fail
                go_meet
                exact ⟨p, v, HR.out, HW.out, HB.out⟩
          case rest =>
            obtain ⟨p, v, hR, hw, hB⟩ := hcut
            have hpl := hR.2.1
            simp only [ByteArray.size, List.size_toArray] at hpl
            have htl : (l.take p).length = p := by rw [List.length_take]; omega
            obtain ⟨m, hm⟩ : ∃ m, m = l.take p := ⟨_, rfl⟩
            rw [← hm] at hw htl
            obtain rfl : p = m.length := htl.symm
            have HR := Lib.hid hR
            have HB := Lib.hid hB
            have HLn := Lib.hid (wlen_any wc bw bw v m hw)
            have HBy := Lib.hid (wbytes_any wc.drew bw bw v m hw (by omega))
            have hpart : ∀ wx, Row8 wx a1 l → Row8 wx a1 m := by
              intro wx h
              rw [hm]
              rcases h with he | ⟨b, o, rfl, hc⟩
              · exact .inl (by rw [he]; simp)
              · simpa using (Row8.part (.inr ⟨b, o, rfl, hc⟩) 0 m.length (by omega))
            have HPa := Lib.hid hpart
            have hrc := HPa.out wc.drew (HR1.out.keep HB.out).drew
            have HRc := Lib.hid hrc
            have hcv := conv_row (P := Try.prog) hrc cap1 23 9 5 Try.underlying23 Try.underlying5 Try.underlying9
            have hsl := slice_to a1 l.length cap1 m.length (m.length : Int) rfl (by omega)
            have hle1 : (m.length : Int) ≤ (l.length : Int) := by omega
            have HM := Lib.hid hm
            have g0 : decide ((0 : Int) ≤ (m.length : Int)) = true := by simp
            have g1 : decide ((m.length : Int) ≤ (l.length : Int)) = true := by simpa using hle1
            have g2 : ((m.length : Int) == (m.length : Int)) = true := by simp
            clear hR hw hB HR7 HW7 HB7 hpart hrc hm htl HR1 HPa
            go_upto_region 42 with (go_at_call 25; go_fit HLn.out; rintro e w' ⟨rfl, rfl⟩)
            clear HLn
            have hb10 := HB.out.drew
            refine Sch.wp_region_sched (fun w' => Sem.run Try.prog (convert 23 9 (.slice a1 m.length cap1)) w' = .ok (.string ⟨m.toArray⟩) w') [(0, true), (2, true), (1, false), (3, true), (4, true), (5, true), (6, true), (7, true), (8, true), (9, true), (10, true), (11, true), (12, true), (13, true), (14, true), (17, true), (18, true), (19, true), (20, true), (15, false), (16, false), (21, true), (22, true), (23, true), (24, false), (25, true), (26, true)] (by kernel_rfl) (by kernel_rfl) hcv ?_
            repeat (first | (refine Sch.held_q rfl rfl (fun K hK => ?_); go_big_quiet_op; (first | refine hK _ ?_ | refine ⟨_, fun _ _ => rfl, hK _ ?_⟩); clear hK K) | (refine Sch.held_s _ rfl rfl rfl ?_; simp only [Act.put, List.setIfInBounds_toArray, List.set_cons_zero, List.set_cons_succ]))
            refine Sch.held_e rfl rfl (fun K hK => ?_)
            go_wp2_with (go_at_call 33; refine (at_no _ x ⟨l.toArray⟩ m.length HR.out.drew).mono ?_; rintro e w' ⟨rfl, rfl⟩)
            refine hK _ _ hcv ?_
            clear hK K
            repeat (first | (refine Sch.held_q rfl rfl (fun K hK => ?_); go_big_quiet_op; (first | refine hK _ ?_ | refine ⟨_, fun _ _ => rfl, hK _ ?_⟩); clear hK K) | (refine Sch.held_s _ rfl rfl rfl ?_; simp only [Act.put, List.setIfInBounds_toArray, List.set_cons_zero, List.set_cons_succ]))
            refine Sch.held_conv _ _ _ _ _ rfl rfl rfl (fun w h => h) rfl ?_
            simp only [Act.put, List.setIfInBounds_toArray, List.set_cons_zero, List.set_cons_succ]
            refine Sch.held_e rfl rfl (fun K hK => ?_)
            go_wp2_with (go_at_call 24; refine HBy.out.mono ?_; rintro e w9 ⟨v9, rfl, ho9, hb9⟩; obtain ⟨a9, c9, rfl, hrow9, -, -⟩ := ho9.row)
            have hcv9 := conv_row (P := Try.prog) hrow9 c9 23 9 5 Try.underlying23 Try.underlying5 Try.underlying9
            have hcvb := conv_row (P := Try.prog) (HRc.out.keep hb9) cap1 23 9 5 Try.underlying23 Try.underlying5 Try.underlying9
            have HB9 := Lib.hid (HB.out.drew.trans (hb9.mono HB.out.drew.size))
            have HRw := Lib.hid (HRc.out.keep hb9)
            clear hb9 ho9 hrow9
            refine hK _ _ hcvb ?_
            clear hK K
            refine Sch.held_e rfl rfl (fun K hK => ?_)
            go_wp2_with fail
            refine hK _ _ hcvb ?_
            clear hK K
            repeat (first | (refine Sch.held_q rfl rfl (fun K hK => ?_); go_big_quiet_op; (first | refine hK _ ?_ | refine ⟨_, fun _ _ => rfl, hK _ ?_⟩); clear hK K) | (refine Sch.held_s _ rfl rfl rfl ?_; simp only [Act.put, List.setIfInBounds_toArray, List.set_cons_zero, List.set_cons_succ]))
            refine Sch.held_e rfl rfl (fun K hK => ?_)
            go_wp2_with (go_at_call 20; refine (known_any _).mono ?_; rintro e w10 ⟨rfl, hb10⟩)
            refine hK _ _ (conv_row (P := Try.prog) (HRw.out.keep hb10) cap1 23 9 5 Try.underlying23 Try.underlying5 Try.underlying9) ?_
            clear hK K
            have HB10 := Lib.hid (HB9.out.trans (hb10.mono HB9.out.size))
            clear hb10
            repeat (first | (refine Sch.held_q rfl rfl (fun K hK => ?_); go_big_quiet_op; (first | refine hK _ ?_ | refine ⟨_, fun _ _ => rfl, hK _ ?_⟩); clear hK K) | (refine Sch.held_s _ rfl rfl rfl ?_; simp only [Act.put, List.setIfInBounds_toArray, List.set_cons_zero, List.set_cons_succ]))
            refine Sch.held_n ?_
            go_wp2_with fail
            go_ret
            exact ⟨rfl, HB10.out⟩

end Go.Proofs.Ytjkiollopajmoaa.V
