/-
  The reference's readings, and one call of a reader as the statements check it.
-/
import Derived.Test.YtjkiollopajmoaaVWalkC
import Derived.Test.YtjkiollopajmoaaVKnown
import Derived.Deep.RegionWith
import Derived.RegionTactic
import Derived.Deep.CutRange
namespace Go.Proofs.Ytjkiollopajmoaa.V
set_option linter.unusedVariables false
open Go.RowKit

theorem size8 : ∀ w, (Go.sizeOf 5).run Try.prog w = .ok 1 w := fun _ => by kernel_rfl
theorem elem8 : Try.prog.elem 23 = 5 := by simp [Program.elem, Try.underlying23]

/-- A part of a slice of bytes, as the program cuts it. -/
theorem slice_at {w : World} {a : Option Addr} {l : List UInt8} (c lo hi : Nat) (x y : Int) (hx : x = (lo : Int)) (hy : y = (hi : Int)) (h1 : lo ≤ hi) (h2 : hi ≤ l.length) (h3 : l.length ≤ c) (hrow : Row8 w a l) :
    ∃ a' c', (∀ wx, (Instr.slice 23 (.slice a l.length c) (some (.int .i64 x)) (some (.int .i64 y)) none).run Try.prog wx = .ok (.slice a' (hi - lo) c') wx) ∧ Row8 w a' ((l.drop lo).take (hi - lo)) ∧ hi - lo ≤ c' := by
  subst hx hy
  have ht : Try.prog.underlying 23 = some (.slice (Try.prog.elem 23)) := by rw [elem8]; exact Try.underlying23
  refine ⟨if c = lo then a else a.map (·.add (lo * 1)), c - lo, fun wx => ?_, ?_, by omega⟩
  · rw [run_slice_lh wx 23 a l.length c ht .i64 .i64 _ _ (by omega) (by omega) (by omega), elem8, size8]
    simp [Result.andThen, sliced]
  · by_cases hc : c = lo
    · have : hi - lo = 0 := by omega
      rw [this]
      exact .inl rfl
    · rw [if_neg hc]
      by_cases hl : l = []
      · subst hl
        simp at h2
        exact .inl (by simp)
      · obtain ⟨b, o, rfl, _⟩ := hrow.resolve_left hl
        have e : (some (⟨b, o, none⟩ : Addr)).map (·.add (lo * 1)) = some ⟨b, o + lo, none⟩ := by
          simp only [Option.map_some, Nat.mul_one]
          unfold Addr.add
          split <;> simp_all
        rw [e]
        exact hrow.part lo (hi - lo) (by omega)

/-- What is left of a slice of bytes behind an index. -/
theorem slice_from {w : World} {a : Option Addr} {l : List UInt8} (c lo : Nat) (x : Int) (hx : x = (lo : Int)) (h2 : lo ≤ l.length) (h3 : l.length ≤ c) (hrow : Row8 w a l) :
    ∃ a' c', (∀ wx, (Instr.slice 23 (.slice a l.length c) (some (.int .i64 x)) none none).run Try.prog wx = .ok (.slice a' (l.length - lo) c') wx) ∧ Row8 w a' (l.drop lo) ∧ l.length - lo ≤ c' := by
  subst hx
  have ht : Try.prog.underlying 23 = some (.slice (Try.prog.elem 23)) := by rw [elem8]; exact Try.underlying23
  obtain ⟨a', c', _, hr, hc⟩ := slice_at c lo l.length _ _ rfl rfl h2 (Nat.le_refl _) h3 hrow
  refine ⟨if c = lo then a else a.map (·.add (lo * 1)), c - lo, fun wx => ?_, ?_, by omega⟩
  · rw [run_slice_l wx 23 a l.length c ht .i64 _ (by omega) (by omega), elem8, size8]
    simp [Result.andThen, sliced]
  · by_cases hc : c = lo
    · have : l.length ≤ lo := by omega
      rw [List.drop_eq_nil_of_le this]
      exact .inl rfl
    · rw [if_neg hc]
      by_cases hl : l = []
      · subst hl
        exact .inl (by simp)
      · obtain ⟨b, o, rfl, _⟩ := hrow.resolve_left hl
        have e : (some (⟨b, o, none⟩ : Addr)).map (·.add (lo * 1)) = some ⟨b, o + lo, none⟩ := by
          simp only [Option.map_some, Nat.mul_one]
          unfold Addr.add
          split <;> simp_all
        rw [e]
        have := hrow.part lo (l.length - lo) (by omega)
        rwa [List.take_of_length_le (by rw [List.length_drop]; omega)] at this

theorem slice_to (a : Option Addr) (len c hi : Nat) (y : Int) (hy : y = (hi : Int)) (h3 : hi ≤ c) :
    ∀ wx, (Instr.slice 23 (.slice a len c) none (some (.int .i64 y)) none).run Try.prog wx = .ok (.slice a hi c) wx := by
  subst hy
  intro wx
  have ht : Try.prog.underlying 23 = some (.slice (Try.prog.elem 23)) := by rw [elem8]; exact Try.underlying23
  rw [run_slice_h wx 23 a len c ht .i64 _ (by omega) (by omega), elem8, size8]
  have e : ∀ x : Addr, x.add 0 = x := fun x => by unfold Addr.add; simp
  rcases a with _ | x
  · simp [Result.andThen, sliced]
  · simp [Result.andThen, sliced, e]

set_option maxRecDepth 100000 in
set_option maxHeartbeats 400000 in
theorem refnum_any (l : List UInt8) (a : Option Addr) (c : Nat) (w : World) (hl : l.length ≤ 9223372036854775807) (hrow : Row8 w a l) (most : Int) (m : Nat) (hm : most = (m : Int)) :
    Calls Try.prog 47 #[.slice a l.length c, .int .u64 most] w fun e w' => e = .returned (.tuple #[.int .u64 (rn l m).1, .int .i64 (rn l m).2.1, .int .i64 (rn l m).2.2]) ∧ w = w' := by
  subst hm
  have HR := read_any l a c w hl hrow
  clear hrow
  obtain ⟨n, z, er, hd⟩ : ∃ n z e, rd l 0 0 = (n, z, e) := ⟨_, _, _, rfl⟩
  rw [hd] at HR
  have HR' := Lib.hid HR
  have HD := Lib.hid hd
  have he := rd_err l 0 0
  rw [hd] at he
  have HE := Lib.hid he
  clear HR hd he
  go_enter Try.func47, Try.ntmps47
  go_wp2_with (go_at_call 50; refine HR'.out.mono ?_; rintro e w' ⟨rfl, rfl⟩)
  all_goals go_ret3
  all_goals first
    | (have t1 : er = 0 := by assumption
       have t2 : m < n := by assumption
       rw [rn_range HD.out m t1 t2]
       exact ⟨rfl, rfl⟩)
    | (have t1 : er = 0 := by assumption
       have t2 : ¬ m < n := by assumption
       rw [rn_fine HD.out m t1 t2]
       first
         | exact ⟨rfl, rfl⟩
         | (subst t1; exact ⟨rfl, rfl⟩))
    | (have t1 : ¬ er = 0 := by assumption
       rw [rn_fail HD.out m t1]
       obtain ⟨rfl, rfl, _⟩ := HE.out t1
       exact ⟨rfl, rfl⟩)

set_option maxRecDepth 100000 in
set_option maxHeartbeats 800000 in
theorem refstr_any (l : List UInt8) (a : Option Addr) (c : Nat) (w : World) (hl : l.length ≤ 9223372036854775807) (hc : l.length ≤ c) (hrow : Row8 w a l) (most : Int) (hm1 : -9223372036854775808 ≤ most) (hm2 : most ≤ 9223372036854775807) :
    Calls Try.prog 48 #[.slice a l.length c, .int .i64 most] w fun e w' => e = .returned (.tuple #[.string ⟨(rs l most).1.toArray⟩, .int .i64 (rs l most).2.1, .int .i64 (rs l most).2.2]) ∧ w = w' := by
  have HR := read_any l a c w hl hrow
  obtain ⟨n, z, er, hd⟩ : ∃ n z e, rd l 0 0 = (n, z, e) := ⟨_, _, _, rfl⟩
  have hz := rd_le l
  have hn := rd_lt l
  rw [hd] at HR hz hn
  simp only at hz hn
  have HR' := Lib.hid HR
  have HD := Lib.hid hd
  have HRow := Lib.hid hrow
  clear HR hd hrow
  by_cases he : er = 0
  · subst he
    by_cases hlong : most < 0 ∨ most < (n : Int)
    · have hfin := rs_long HD.out most rfl hlong
      rw [hfin]
      have HF := Lib.hid hfin
      clear hfin
      by_cases hneg : most < 0
      · clear hlong
        go_enter Try.func48, Try.ntmps48
        go_wp2_with (go_at_call 50; refine HR'.out.mono ?_; rintro e w' ⟨rfl, rfl⟩)
        all_goals go_ret3
        all_goals exact ⟨rfl, rfl⟩
      · obtain ⟨m, rfl⟩ := Int.eq_ofNat_of_zero_le (show 0 ≤ most by omega)
        have hnm : m < n := by omega
        clear hlong
        go_enter Try.func48, Try.ntmps48
        go_wp2_with (go_at_call 50; refine HR'.out.mono ?_; rintro e w' ⟨rfl, rfl⟩)
        all_goals go_ret3
        all_goals exact ⟨rfl, rfl⟩
    · obtain ⟨m, rfl⟩ := Int.eq_ofNat_of_zero_le (show 0 ≤ most by omega)
      have hnm : n ≤ m := by omega
      by_cases hsh : l.length - z < n
      · have hfin := rs_short HD.out (m : Int) rfl hlong hsh
        rw [hfin]
        have HF := Lib.hid hfin
        clear hfin hlong
        have hsh' : (l.length : Int) - (z : Int) < (n : Int) := by omega
        go_enter Try.func48, Try.ntmps48
        go_wp2_with (go_at_call 50; refine HR'.out.mono ?_; rintro e w' ⟨rfl, rfl⟩)
        all_goals go_ret3
        all_goals exact ⟨rfl, rfl⟩
      · have hfin := rs_fine HD.out (m : Int) rfl hlong hsh
        rw [hfin]
        have HF := Lib.hid hfin
        clear hfin hlong
        obtain ⟨a', c', hsl, hrow', _⟩ := slice_at c z (z + n) (z : Int) ((z : Int) + (n : Int)) rfl (by omega) (by omega) (by omega) hc HRow.out
        have hlen : ((l.drop z).take (z + n - z)).length = z + n - z := by rw [List.length_take, List.length_drop]; omega
        have hcv := fun (wx : World) (hr : Row8 wx a' ((l.drop z).take (z + n - z))) => conv_row (P := Try.prog) hr c' 23 9 5 Try.underlying23 Try.underlying5 Try.underlying9
        have hcv2 := hcv w hrow'
        rw [hlen] at hcv2
        have e1 : z + n - z = n := by omega
        rw [e1] at hcv2 hsl
        have hsh' : ¬ (l.length : Int) - (z : Int) < (n : Int) := by omega
        clear hcv hrow' hlen e1
        go_enter Try.func48, Try.ntmps48
        go_wp2_with (go_at_call 50; refine HR'.out.mono ?_; rintro e w' ⟨rfl, rfl⟩)
        all_goals go_ret3
        all_goals rw [show ((z + n : Nat) : Int) = (z : Int) + (n : Int) from by omega]
        all_goals exact ⟨rfl, rfl⟩
  · have hfin := rs_fail HD.out most he
    rw [hfin]
    have HF := Lib.hid hfin
    have hb : ((er : Int) != 0) = true := by rw [bne_iff_ne]; omega
    clear hfin
    go_enter Try.func48, Try.ntmps48
    go_wp2_with (go_at_call 50; refine HR'.out.mono ?_; rintro e w' ⟨rfl, rfl⟩)
    all_goals go_ret3
    all_goals exact ⟨rfl, rfl⟩

theorem refZag_of' (n : Nat) (h : n < 18446744073709551616) (w : World) :
    Calls Try.prog 13 #[.int .u64 (n : Int)] w fun e w' => e = .returned (.int .i64 (zag n)) ∧ w = w' := refZag_any n w h

/-- How many bytes a call of a reader takes from those that are left. -/
def asz (l : List UInt8) (what : Int) (n : Nat) (most : Int) : Nat :=
  if what = 0 then (rn l n).2.1 else if what = 1 then (rn l 18446744073709551615).2.1 else if what = 2 then (rs l most).2.1 else (tk l most).2.1

set_option maxRecDepth 100000 in
set_option maxHeartbeats 2000000 in
theorem asks_any (w : World) (r : Nat) (s : ByteArray) (p : Nat) (h : Rd w r s p) (l : List UInt8) (hld : s.data.toList.drop p = l) (a : Option Addr) (c : Nat) (hc : l.length ≤ c) (hrow : Row8 w a l) (what : Int) (n : Nat) (hn : n < 18446744073709551616)
    (most : Int) (hm1 : -9223372036854775808 ≤ most) (hm2 : most ≤ 9223372036854775807) (hw1 : 0 ≤ what) (hw2 : what ≤ 3) :
    Calls Try.prog 32 #[.pointer (some ⟨r, 0, none⟩), .slice a l.length c, .agg #[.int .i64 what, .int .u64 (n : Int), .int .i64 most]] w fun e w' =>
      e = .returned (.int .i64 ((asz l what n most : Nat) : Int)) ∧ Rd w' r s (p + asz l what n most) ∧ w.grownBy w' (some r) := by
  have hlen : l.length ≤ 9223372036854775807 := by
    have := h.2.2
    rw [← hld, List.length_drop]
    simp; omega
  have hb : Below w.heap.size w (w.alloc (.cells #[.int .i64 what, .int .u64 (n : Int), .int .i64 most] 55)) := (Below.refl _ _).alloc (Nat.le_refl _) _
  have H1 := h.keep hb
  have HRow1 := hrow.keep hb
  have HG := Lib.hid (gb_below hb (some r))
  have HX := Lib.hid H1
  have HY := Lib.hid HRow1
  clear h hrow H1 HRow1 hb
  by_cases h0 : what = 0
  · subst h0
    have HQ := Lib.hid (refnum_any l a c _ hlen HY.out (n : Int) n rfl)
    have HRd := Lib.hid (reads_no _ r s p n (n : Int) _ _ HX.out rfl (by rw [hld]) (by rw [hld]))
    have hs : asz l 0 n most = (rn l n).2.1 := rfl
    rw [hs]
    rw [hld] at HRd
    clear hs
    generalize (rn l n).1 = v1 at *
    generalize (rn l n).2.2 = v3 at *
    generalize (rn l n).2.1 = v2 at *
    go_enter Try.func32, Try.ntmps32
    go_wp2_with (first | (go_at_call 47; refine HQ.out.mono ?_; rintro e w' ⟨rfl, rfl⟩) | (go_at_call 16; refine HRd.out.mono ?_; rintro e w' ⟨rfl, hR, hG⟩))
    go_ret
    exact ⟨rfl, hR, gb_trans HG.out hG⟩
  by_cases h1 : what = 1
  · subst h1
    have HQ := Lib.hid (refnum_any l a c _ hlen HY.out 18446744073709551615 18446744073709551615 rfl)
    have hz := rn_lt l 18446744073709551615
    have HZ := Lib.hid (refZag_of' (rn l 18446744073709551615).1 hz)
    have HRd := Lib.hid (signed_no _ r s p _ _ HX.out (by rw [hld]) (by rw [hld]))
    have hs : asz l 1 n most = (rn l 18446744073709551615).2.1 := rfl
    rw [hs]
    rw [hld] at HRd
    clear hs hz
    generalize (rn l 18446744073709551615).1 = v1 at *
    generalize (rn l 18446744073709551615).2.2 = v3 at *
    generalize (rn l 18446744073709551615).2.1 = v2 at *
    generalize zag v1 = v4 at *
    clear h0
    go_enter Try.func32, Try.ntmps32
    go_wp2_with (first | (go_at_call 47; refine HQ.out.mono ?_; rintro e w' ⟨rfl, rfl⟩) | (go_at_call 13; refine (HZ.out _).mono ?_; rintro e w' ⟨rfl, rfl⟩) | (go_at_call 18; refine HRd.out.mono ?_; rintro e w' ⟨rfl, hR, hG⟩))
    go_ret
    exact ⟨rfl, hR, gb_trans HG.out hG⟩
  by_cases h2 : what = 2
  · subst h2
    have HQ := Lib.hid (refstr_any l a c _ hlen hc HY.out most hm1 hm2)
    have HRd := Lib.hid (hears_no _ r s p most _ ⟨(rs l most).1.toArray⟩ hm1 hm2 HX.out (by rw [hld]) (by rw [hld]))
    have hs : asz l 2 n most = (rs l most).2.1 := rfl
    rw [hs]
    rw [hld] at HRd
    clear hs
    generalize (rs l most).1 = v1 at *
    generalize (rs l most).2.2 = v3 at *
    generalize (rs l most).2.1 = v2 at *
    clear h0 h1
    go_enter Try.func32, Try.ntmps32
    go_wp2_with (first | (go_at_call 48; refine HQ.out.mono ?_; rintro e w' ⟨rfl, rfl⟩) | (go_at_call 35; refine HRd.out.mono ?_; rintro e w' ⟨rfl, hR, hG⟩))
    go_ret
    exact ⟨rfl, hR, gb_trans HG.out hG⟩
  · obtain rfl : what = 3 := by omega
    have hs : asz l 3 n most = (tk l most).2.1 := rfl
    rw [hs]
    clear hs h0 h1 h2
    by_cases hneg : most < 0
    · have ht : tk l most = ([], 0, 2) := by unfold tk; rw [if_pos hneg]
      have HT := Lib.hid (takes_no _ r s p most 2 ⟨#[]⟩ HX.out (by rw [hld, ht]) (by rw [hld, ht]; rfl))
      rw [hld, ht] at HT
      rw [ht]
      clear ht
      go_enter Try.func32, Try.ntmps32
      go_wp2_with (go_at_call 36; refine HT.out.mono ?_; rintro e w' ⟨rfl, hR, hG⟩)
      go_ret
      exact ⟨rfl, hR, gb_trans HG.out hG⟩
    · obtain ⟨m, rfl⟩ := Int.eq_ofNat_of_zero_le (show 0 ≤ most by omega)
      by_cases hbig : l.length < m
      · have ht : tk l (m : Int) = ([], 0, 4) := by unfold tk; rw [if_neg hneg, if_pos (by omega)]
        have HT := Lib.hid (takes_no _ r s p (m : Int) 4 ⟨#[]⟩ HX.out (by rw [hld, ht]) (by rw [hld, ht]; rfl))
        rw [hld, ht] at HT
        rw [ht]
        clear ht
        go_enter Try.func32, Try.ntmps32
        go_wp2_with (go_at_call 36; refine HT.out.mono ?_; rintro e w' ⟨rfl, hR, hG⟩)
        go_ret
        exact ⟨rfl, hR, gb_trans HG.out hG⟩
      · have hle : m ≤ l.length := by omega
        have hmc : m ≤ c := by omega
        have ht : tk l (m : Int) = (l.take m, m, 0) := by unfold tk; rw [if_neg hneg, if_neg (by omega)]; rfl
        have HT := Lib.hid (fun (wx : World) (hx : Rd wx r s p) => takes_no wx r s p (m : Int) 0 ⟨(l.take m).toArray⟩ hx (by rw [hld, ht]) (by rw [hld, ht]; rfl))
        rw [hld, ht] at HT
        rw [ht]
        clear ht
        have hlm : (l.take m).length = m := by rw [List.length_take]; omega
        have hsl := slice_to a l.length c m (m : Int) rfl hmc
        have hpart : Row8 (w.alloc (.cells #[.int .i64 3, .int .u64 (n : Int), .int .i64 (m : Int)] 55)).drew a (l.take m) := by
          rcases HY.out with he | ⟨b, o, rfl, _⟩
          · exact .inl (by rw [he]; simp)
          · simpa using (HY.out.part 0 m (by omega)).drew
        have hcv := conv_row (P := Try.prog) hpart c 23 9 5 Try.underlying23 Try.underlying5 Try.underlying9
        rw [hlm] at hcv
        have HXd := Lib.hid HX.out.drew
        have hbox : (w.alloc (.cells #[.int .i64 3, .int .u64 (n : Int), .int .i64 (m : Int)] 55)).drew.cell? ⟨w.heap.size, 2, none⟩ = some (.int .i64 (m : Int)) := by
          rw [World.cell?_drew, World.cell?_alloc_at _ _ _ _ rfl]; rfl
        have hrne : w.heap.size ≠ r := by
          intro e
          have hc2 := HX.out.c0
          rw [← e, World.cell?_alloc_at _ _ _ _ rfl] at hc2
          simp at hc2
        have HBox := Lib.hid (fun (w' : World) (hG : (w.alloc (.cells #[.int .i64 3, .int .u64 (n : Int), .int .i64 (m : Int)] 55)).drew.grownBy w' (some r)) => hG.cell hbox (by simpa using hrne))
        clear hpart hlm hbox hrne
        go_enter Try.func32, Try.ntmps32
        go_wp2_with fail
        go_region_with (go_at_call 36; refine (HT.out _ HXd.out).mono ?_; rintro e w' ⟨rfl, hR, hG⟩; have hbox := HBox.out w' hG; have HR2 := Lib.hid hR; have HG2 := Lib.hid hG; clear hR hG)
        all_goals go_wp2_with fail
        all_goals go_ret
        all_goals exact ⟨rfl, HR2.out, gb_trans HG.out ⟨HG2.out.os, HG2.out.tape, HG2.out.output, HG2.out.size, HG2.out.block⟩⟩

end Go.Proofs.Ytjkiollopajmoaa.V
