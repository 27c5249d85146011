/-
  VarintLists: every two lists of numbers give true.
-/
import Derived.Test.YtedicpgiejddiaaVNil
import Derived.Test.YtedicpgiejddiaaVRefNum
import Derived.Deep.RegionWith
import Derived.RegionTactic
import Derived.Deep.CutRange
namespace Go.Proofs.Ytedicpgiejddiaa.V
open Go.RowKit

theorem isRow_u64 {w : World} {a : Option Addr} {len cap : Nat} {zs : List Int} (h : IsRow .u64 w a len cap zs) : ∃ ns : List Nat, ns.length = len ∧ RowV w a (u64s ns) ∧ ∀ n ∈ ns, n < 18446744073709551616 := by
  have hc := isRow_cells h
  have hl := (isRow_len h).2.2
  have hwz : ∀ n ∈ zs, 0 ≤ n ∧ n ≤ 18446744073709551615 := by
    rcases h with ⟨_, _, _, rfl⟩ | ⟨x, _, _, _, _, _, hwz⟩
    · simp
    · intro n hn
      simpa [Lit.wf, IntKind.min, IntKind.max, IntKind.signed, IntKind.bits] using hwz n hn
  have hmem : ∀ n ∈ zs.take len, 0 ≤ n ∧ n ≤ 18446744073709551615 := fun n hn => hwz n (List.mem_of_mem_take hn)
  have hyl : (zs.take len).length = len := by rw [List.length_take]; omega
  generalize zs.take len = ys at *
  refine ⟨ys.map Int.toNat, ?_, ?_, ?_⟩
  · rw [List.length_map, hyl]
  · have : u64s (ys.map Int.toNat) = ys.map (Value.int .u64) := by
      unfold u64s
      rw [List.map_map]
      apply List.map_congr_left
      intro n hn
      have := hmem n hn
      simp; omega
    rw [this]; exact hc
  · intro n hn
    simp only [List.mem_map] at hn
    obtain ⟨z, hz, rfl⟩ := hn
    have := hmem z hz
    omega

theorem isRow_i64 {w : World} {a : Option Addr} {len cap : Nat} {zs : List Int} (h : IsRow .i64 w a len cap zs) : ∃ ns : List Int, ns.length = len ∧ RowV w a (i64s ns) ∧ ∀ n ∈ ns, -9223372036854775808 ≤ n ∧ n ≤ 9223372036854775807 := by
  have hc := isRow_cells h
  have hl := (isRow_len h).2.2
  have hwz : ∀ n ∈ zs, -9223372036854775808 ≤ n ∧ n ≤ 9223372036854775807 := by
    rcases h with ⟨_, _, _, rfl⟩ | ⟨x, _, _, _, _, _, hwz⟩
    · simp
    · intro n hn
      simpa [Lit.wf, IntKind.min, IntKind.max, IntKind.signed, IntKind.bits] using hwz n hn
  exact ⟨zs.take len, by rw [List.length_take]; omega, hc, fun n hn => hwz n (List.mem_of_mem_take hn)⟩

/-- A writer that lies below what is written stays. -/
theorem Wr.above {w w' : World} {base b : Nat} {v : Value} {l : List UInt8} {row : Option Nat} (h : Wr w base b v l) (hg : w.grownBy w' row) {B : Nat} (hrow : ∀ g, row = some g → B ≤ g) (hb : b < B) (hv : ∀ k, v.ownBlock = some k → k < B) : Wr w' base b v l := by
  have hlt := h.lt
  obtain ⟨⟨T, hh⟩, ho, hne⟩ := h
  refine ⟨⟨T, ?_⟩, ho.keep hg ?_, hne⟩
  · rw [hg.block b hlt (fun e => by have := hrow b e.symm; omega), hh]
  · rcases hvb : v.ownBlock with _ | k
    · exact .inl rfl
    · right
      intro e
      have := hrow k e.symm
      have := hv k hvb
      omega

set_option maxRecDepth 100000 in
set_option maxHeartbeats 8000000 in
theorem lists_walk (a0 : Option Addr) (len0 cap0 : Nat) (z0 : List Int) (a1 : Option Addr) (len1 cap1 : Nat) (z1 : List Int) (w : World) (h0 : IsRow .u64 w a0 len0 cap0 z0) (h1 : IsRow .i64 w a1 len1 cap1 z1) :
    Calls Try.prog 5 #[.slice a0 len0 cap0, .slice a1 len1 cap1] w fun e w' => e = .returned (.bool true) ∧ Below w.heap.size w w' := by
  have hm0 := (isRow_len h0).1
  have hm1 := (isRow_len h1).1
  obtain ⟨ns, rfl, hr0, hn0⟩ := isRow_u64 h0
  obtain ⟨is, rfl, hr1, hn1⟩ := isRow_i64 h1
  clear h0 h1
  have HR0 := Lib.hid hr0
  have HR1 := Lib.hid hr1
  have HN0 := Lib.hid hn0
  have HN1 := Lib.hid hn1
  clear hr0 hr1 hn0 hn1
  by_cases h40 : 40 < ns.length
  · go_enter Try.func5, Try.ntmps5
    go_wp2_with (go_at_call 20; refine (known_any _).mono ?_; rintro e w' ⟨rfl, hb⟩)
    go_ret
    exact ⟨rfl, hb⟩
  by_cases h41 : 40 < is.length
  · go_enter Try.func5, Try.ntmps5
    go_wp2_with (go_at_call 20; refine (known_any _).mono ?_; rintro e w' ⟨rfl, hb⟩)
    go_ret
    exact ⟨rfl, hb⟩
  have hnl := nums_le ns HN0.out
  have hzl := zigs_le is HN1.out
  have hb1 : Below w.heap.size w (w.alloc (.cells #[.slice none 0 0] 40)) := (Below.refl _ _).alloc (Nat.le_refl _) _
  have hlt : ∀ {xs : List Value} {a : Option Addr}, RowV w a xs → ∀ b' o, a = some ⟨b', o, none⟩ → xs ≠ [] → b' < w.heap.size := by
    intro xs a hrow b' o e hne
    subst e
    obtain ⟨b2, o2, e, hc⟩ := hrow.resolve_left hne
    cases e
    exact lt_of_cell (hc 0 (List.length_pos_iff.2 hne))
  have HA := Lib.hid (wnum_any (w.alloc (.cells #[.slice none 0 0] 40)) w.heap.size w.heap.size _ [] a0 ns cap0 (wr_new w _ _ (Nat.le_refl _)) (HR0.out.keep hb1) HN0.out
    (fun b' o e hne => ⟨Nat.ne_of_lt (hlt HR0.out b' o e hne), by simp [Value.ownBlock]⟩) (by simp; omega) (by simp))
  have HLt1 := Lib.hid (hlt HR1.out)
  clear hlt hb1
  go_enter Try.func5, Try.ntmps5
  go_wp2_with fail
  go_fit HA.out
  rintro e w2 ⟨rfl, v2, hw2, hf2, hg2⟩
  rw [List.nil_append] at hw2
  have hB2 : Below w.heap.size w w2 := hf2.below ((Below.refl _ _).alloc (Nat.le_refl _) _) (by simp) (Nat.le_refl _) (by intro k hk; cases hk)
  have HI := Lib.hid (wint_any w2 w.heap.size w.heap.size v2 (nums ns) a1 is cap1 hw2 (HR1.out.keep hB2) HN1.out
    (fun b' o e hne => ⟨Nat.ne_of_lt (HLt1.out b' o e hne), fun e2 => by have := (hw2.2.1.lt b' e2.symm).1; have := HLt1.out b' o e hne; omega⟩) (by omega) hB2.size)
  have HB2 := Lib.hid hB2
  have HV2 := Lib.hid hw2.2.1.lt
  clear hw2 hf2 hg2 hB2 HA
  go_wp2_with fail
  go_fit HI.out
  rintro e w3 ⟨rfl, v3, hw3, hf3, hg3⟩
  have HB3 := Lib.hid (hf3.below HB2.out HB2.out.size (Nat.le_refl _) (fun k hk => (HV2.out k hk).1))
  have HW3 := Lib.hid hw3
  have HV3 := Lib.hid hw3.2.1.lt
  have hb3 := hw3.lt
  clear hw3 hf3 hg3 HI HV2 HB2 HLt1
  go_wp2_with fail
  generalize hL : nums ns ++ zigs is = L at *
  have HL := Lib.hid hL
  clear hL
  have hs3 := HB3.out.size
  go_loopw [6, 26] (fun x i wr => ∃ k : Nat, k ≤ ns.length ∧ i = .int .i64 k ∧ O8 wr w3.heap.size x (nums (ns.take k)) ∧ Wr wr w.heap.size w.heap.size v3 L ∧ Below w.heap.size w wr ∧ w3.heap.size ≤ wr.heap.size) (fun _ i _ => ns.length - (intOf i).toNat)
  case atStart => exact ⟨0, by omega, rfl, by simpa [nums] using O8.nil _ _, HW3.out, HB3.out, Nat.le_refl _⟩
  case round =>
    obtain ⟨k, hk, rfl, ho, hw, hB, hs⟩ := hrel
    have HO := Lib.hid ho
    have HW := Lib.hid hw
    have HB := Lib.hid hB
    clear ho hw hB
    by_cases hlt : k < ns.length
    · obtain ⟨n, hn, hn64⟩ : ∃ n : Nat, n = ns[k] ∧ n < 18446744073709551616 := ⟨_, rfl, HN0.out _ (List.getElem_mem hlt)⟩
      have hu : u64s ns ≠ [] := by intro e; have := congrArg List.length e; simp only [u64s, List.length_map, List.length_nil] at this; omega
      obtain ⟨b', o, rfl, hc⟩ := (HR0.out.keep HB.out).resolve_left hu
      have hcell : wr.cell? ⟨b', o + k, none⟩ = some (.int .u64 (n : Int)) := by
        have := hc k (by simpa [u64s] using hlt)
        rw [this, hn]; simp [u64s]
      have HN := Lib.hid hn
      have hl2 : (nums (ns.take k)).length ≤ 400 := by
        have h2 := nums_le (ns.take k) (fun m hm => HN0.out m (List.mem_of_mem_take hm))
        rw [List.length_take] at h2
        omega
      have HL2 := Lib.hid hl2
      have h10 := num_ten hn64
      have HC := Lib.hid (number_any (n + 1) n wr (by omega) hn64)
      clear hc hn hu hl2
      go_wp2_with fail
      go_fit HC.out
      rintro e w5 ⟨v5, rfl, ho5, hb5⟩
      obtain ⟨a5, c5, rfl, hrow5, hnil5, -⟩ := ho5.row
      have HRow5 := Lib.hid hrow5
      have HNil5 := Lib.hid hnil5
      have HB5 := Lib.hid hb5
      have hs5 := hb5.size
      clear ho5 hrow5 hnil5 hb5 HC
      go_wp2_with (at_builtin; refine wpList_app8 rfl (.tmp 30) (.tmp 32) rfl w3.heap.size _ _ rfl (HO.out.below HB5.out) a5 (num n) c5 rfl HRow5.out (fun h => (HNil5.out h).1) (by have := HL2.out; omega) (by omega) ?_; intro v6 w6 ho6 hg6 _)
      go_roundw
      case rel =>
        refine ⟨k + 1, by omega, by go_num, ?_, ?_, ?_, ?_⟩
        · rw [nums_succ ns k hlt, ← HN.out]; exact ho6
        · exact (HW.out.keep HB5.out).above hg6 (fun g hg => (HO.out.lt g hg).1) hb3 (fun k hk => (HV3.out k hk).2)
        · exact (HB.out.trans (HB5.out.mono HB.out.size)).grown hg6 (by omega) (fun g hg => by have := (HO.out.lt g hg).1; omega)
        · have := hg6.size; omega
      case measure => simp [intOf]; omega
    · obtain rfl : k = ns.length := by omega
      have ho := HO.out
      rw [List.take_length] at ho
      have HO2 := Lib.hid ho
      have hend : ¬ (ns.length : Int) < (ns.length : Int) := by omega
      clear ho HO
      go_wp2_with fail
      obtain ⟨wo, rfl⟩ : ∃ wo : World, wo = wr := ⟨_, rfl⟩
      go_loopw [6, 37] (fun x i wy => ∃ k : Nat, k ≤ is.length ∧ i = .int .i64 k ∧ O8 wy w3.heap.size x (nums ns ++ zigs (is.take k)) ∧ Wr wy w.heap.size w.heap.size v3 L ∧ Below w.heap.size w wy ∧ w3.heap.size ≤ wy.heap.size) (fun _ i _ => is.length - (intOf i).toNat)
      case atStart => exact ⟨0, by omega, rfl, by simpa [zigs] using HO2.out, HW.out, HB.out, hs⟩
      case round =>
        obtain ⟨k, hk, rfl, ho, hw, hB, hsy⟩ := hrel
        clear HO2 HW HB hs
        have HO := Lib.hid ho
        have HW := Lib.hid hw
        have HB := Lib.hid hB
        clear ho hw hB
        by_cases hlt : k < is.length
        · obtain ⟨n, hn, hnA, hnB⟩ : ∃ n : Int, n = is[k] ∧ -9223372036854775808 ≤ n ∧ n ≤ 9223372036854775807 := ⟨_, rfl, HN1.out _ (List.getElem_mem hlt)⟩
          have hu : i64s is ≠ [] := by intro e; have := congrArg List.length e; simp only [i64s, List.length_map, List.length_nil] at this; omega
          obtain ⟨b', o, rfl, hc⟩ := (HR1.out.keep HB.out).resolve_left hu
          have hcell : wr.cell? ⟨b', o + k, none⟩ = some (.int .i64 n) := by
            have := hc k (by simpa [i64s] using hlt)
            rw [this, hn]; simp [i64s]
          have HN := Lib.hid hn
          have hl2 : (nums ns ++ zigs (is.take k)).length ≤ 800 := by
            have h2 := zigs_le (is.take k) (fun m hm => HN1.out m (List.mem_of_mem_take hm))
            rw [List.length_take] at h2
            rw [List.length_append]; omega
          have HL2 := Lib.hid hl2
          have hz64 := zig_lt hnA hnB
          have h10 := num_ten hz64
          have HC := Lib.hid (number_any (zig n + 1) (zig n) wr (by omega) hz64)
          clear hc hn hu hl2
          go_wp2_with fail
          refine (refZig_any n _ hnA hnB).mono ?_
          rintro e w' ⟨rfl, rfl⟩
          go_wp2_with fail
          go_fit HC.out
          rintro e w5 ⟨v5, rfl, ho5, hb5⟩
          obtain ⟨a5, c5, rfl, hrow5, hnil5, -⟩ := ho5.row
          have HRow5 := Lib.hid hrow5
          have HNil5 := Lib.hid hnil5
          have HB5 := Lib.hid hb5
          have hs5 := hb5.size
          clear ho5 hrow5 hnil5 hb5 HC
          go_wp2_with (at_builtin; refine wpList_app8 rfl (.tmp 41) (.tmp 44) rfl w3.heap.size _ _ rfl (HO.out.below HB5.out) a5 (num (zig n)) c5 rfl HRow5.out (fun h => (HNil5.out h).1) (by have := HL2.out; omega) (by omega) ?_; intro v6 w6 ho6 hg6 _)
          go_roundw
          case rel =>
            refine ⟨k + 1, by omega, by go_num, ?_, ?_, ?_, ?_⟩
            · rw [zigs_succ is k hlt, ← HN.out, ← List.append_assoc]; exact ho6
            · exact (HW.out.keep HB5.out).above hg6 (fun g hg => (HO.out.lt g hg).1) hb3 (fun k hk => (HV3.out k hk).2)
            · exact (HB.out.trans (HB5.out.mono HB.out.size)).grown hg6 (by omega) (fun g hg => by have := (HO.out.lt g hg).1; omega)
            · have := hg6.size; omega
          case measure => simp [intOf]; omega
        · obtain rfl : k = is.length := by omega
          have ho := HO.out
          rw [List.take_length, HL.out] at ho
          obtain ⟨ax, cx, rfl, hrowx, -⟩ := ho.row
          have hLlen : L.length ≤ 800 := by rw [← HL.out, List.length_append]; omega
          have hcv := conv_row (P := Try.prog) (w := wr.drew) hrowx cx 23 9 5 Try.underlying23 Try.underlying5 Try.underlying9
          have HRx := Lib.hid hrowx
          have HC := Lib.hid (wbytes_any wr.drew w.heap.size w.heap.size v3 L HW.out (by omega))
          have HBd := Lib.hid HB.out.drew
          have hend : ¬ (is.length : Int) < (is.length : Int) := by omega
          clear ho hrowx HO HW HB
          go_wp2_with fail
          go_region_with (first | (go_at_call 24; refine HC.out.mono ?_; rintro e w7 ⟨v7, rfl, ho7, hb7⟩; obtain ⟨a7, c7, rfl, hrow7, -⟩ := ho7.row; have hcv7 := conv_row (P := Try.prog) (w := w7) hrow7 c7 23 9 5 Try.underlying23 Try.underlying5 Try.underlying9; have hcv8 := conv_row (P := Try.prog) (w := w7) (HRx.out.drew.keep hb7) cx 23 9 5 Try.underlying23 Try.underlying5 Try.underlying9; have HB7 := Lib.hid (HBd.out.trans (hb7.mono HBd.out.size)); clear ho7 hb7 hrow7) | (go_at_call 20; refine (known_any _).mono ?_; rintro e w8 ⟨rfl, hb8⟩; have HB8 := Lib.hid (HB7.out.trans (hb8.mono HB7.out.size)); clear hb8))
          all_goals go_wp2_with fail
          all_goals go_ret
          all_goals exact ⟨rfl, HB8.out⟩

end Go.Proofs.Ytedicpgiejddiaa.V
