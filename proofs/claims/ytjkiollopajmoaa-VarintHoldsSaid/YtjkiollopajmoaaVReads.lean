/-
  VarintReads: every calls of a reader of every bytes give true.
-/
import Derived.Test.YtjkiollopajmoaaVAsks
import Derived.Test.YtjkiollopajmoaaVRecs
namespace Go.Proofs.Ytjkiollopajmoaa.V
set_option linter.unusedVariables false
open Go.RowKit

theorem asz_le (l : List UInt8) (what : Int) (n : Nat) (most : Int) : asz l what n most ≤ l.length := by
  unfold asz
  split
  · exact rn_le _ _
  split
  · exact rn_le _ _
  split
  · exact rs_le _ _
  · unfold tk
    split
    · simp
    split
    · simp
    · simp only; omega

/-- Calls of a reader, said without what the walk need not see. -/
theorem copy_of (w : World) (r : Nat) (s : ByteArray) (p : Nat) (h : Rd w r s p) :
    Calls Try.prog 29 #[.pointer (some ⟨r, 0, none⟩)] w fun e w' => ∃ r', e = .returned (.pointer (some ⟨r', 0, none⟩)) ∧ w.heap.size ≤ r' ∧ Rd w' r' s p ∧ Below w.heap.size w w' :=
  (copy_no w r s p h).mono fun e w' ⟨he, hR, hB⟩ => ⟨_, he, Nat.le_refl _, hR, hB⟩

theorem num_some (w : World) (r : Nat) (s : ByteArray) (p : Nat) (h : Rd w r s p) :
    Calls Try.prog 30 #[.pointer (some ⟨r, 0, none⟩), .int .u64 1099511627776] w fun e w' => ∃ v1 v2 p', e = .returned (.tuple #[.int .u64 v1, .int .i64 v2]) ∧ Rd w' r s p' ∧ w.grownBy w' (some r) := by
  have := num_no w r s p 1099511627776 h
  rw [show ((1099511627776 : Nat) : Int) = 1099511627776 from rfl] at this
  exact this.mono fun e w' ⟨he, hR, hB⟩ => ⟨_, _, _, he, hR, hB⟩

theorem raw_some (w : World) (r : Nat) (s : ByteArray) (p : Nat) (n : Int) (h : Rd w r s p) :
    Calls Try.prog 31 #[.pointer (some ⟨r, 0, none⟩), .int .i64 n] w fun e w' => ∃ v1 v2 p', e = .returned (.tuple #[v1, .int .i64 v2]) ∧ Rd w' r s p' ∧ w.grownBy w' (some r) :=
  (raw_no w r s p n h).mono fun e w' ⟨a, c, he, _, hR, hB⟩ => ⟨_, _, _, he, hR, hB⟩

theorem left_of (base : Nat) (w0 : World) (r : Nat) (l : List UInt8) (p : Nat) (w : World) (h : Rd w r ⟨l.toArray⟩ p) (hB : Below base w0 w) :
    Calls Try.prog 34 #[.pointer (some ⟨r, 0, none⟩)] w fun e w' => e = .returned (.int .i64 ((l.length : Int) - (p : Int))) ∧ Rd w' r ⟨l.toArray⟩ p ∧ Below base w0 w' := by
  refine (left_no w r _ p h).mono ?_
  rintro e w' ⟨rfl, n, rfl⟩
  have := h.2.1
  simp only [ByteArray.size, List.size_toArray] at this ⊢
  exact ⟨by rw [Int.ofNat_sub this], h.drewN n, ⟨hB.os, hB.tape, hB.output, hB.size, hB.block⟩⟩

theorem fin_of (base : Nat) (w0 : World) (r : Nat) (l : List UInt8) (p : Nat) (y : Int) (hy : (if p = l.length then (0 : Int) else 12) = y) (w : World) (h : Rd w r ⟨l.toArray⟩ p) (hB : Below base w0 w) :
    Calls Try.prog 17 #[.pointer (some ⟨r, 0, none⟩)] w fun e w' => e = .returned (.int .i64 y) ∧ Rd w' r ⟨l.toArray⟩ p ∧ Below base w0 w' := by
  subst hy
  refine (end_no w r _ p h).mono ?_
  rintro e w' ⟨rfl, n, rfl⟩
  refine ⟨by simp [ByteArray.size], h.drewN n, ⟨hB.os, hB.tape, hB.output, hB.size, hB.block⟩⟩

theorem O8.bump {w : World} {base g c n : Nat} {l : List UInt8} (h : O8 w base (.slice (some ⟨g, 0, none⟩) n c) l) (hl : l.length = n) (k m : Nat) :
    (∃ l' : List UInt8, l'.length = n ∧ O8 (w.setCell ⟨g, k, none⟩ (.int .u8 (((m : Int) + 1) % 256))) base (.slice (some ⟨g, 0, none⟩) n c) l') ∧ w.grownBy (w.setCell ⟨g, k, none⟩ (.int .u8 (((m : Int) + 1) % 256))) (some g) := by
  subst hl
  have hu : (((m : Int) + 1) % 256) = ((UInt8.ofNat ((m + 1) % 256)).toNat : Int) := by simp
  rw [hu]
  obtain ⟨h1, h2⟩ := World.ownsRow.stored h k (.int .u8 ((UInt8.ofNat ((m + 1) % 256)).toNat : Int))
  refine ⟨⟨l.set k (UInt8.ofNat ((m + 1) % 256)), by simp, ?_⟩, h2⟩
  unfold O8
  rw [List.length_set]
  have e : cells8 (l.set k (UInt8.ofNat ((m + 1) % 256))) = (cells8 l).set k (.int .u8 ((UInt8.ofNat ((m + 1) % 256)).toNat : Int)) := by simp [cells8, List.map_set]
  rw [e]
  exact h1

set_option maxRecDepth 100000 in
set_option maxHeartbeats 8000000 in
theorem reads_walk (a0 : Option Addr) (len0 cap0 : Nat) (z0 : List Int) (a1 : Option Addr) (len1 cap1 : Nat) (q : Nat → Int × Int × Int) (w : World) (h0 : IsRow .u8 w a0 len0 cap0 z0) (h1 : IsAsks w a1 len1 q) :
    Calls Try.prog 6 #[.slice a0 len0 cap0, .slice a1 len1 cap1] w fun e w' => e = .returned (.bool true) ∧ Below w.heap.size w w' := by
  have hm0 := (isRow_len h0).1
  have hnil := (isRow_len h0).2.1
  have hcap : len0 ≤ cap0 := by
    rcases h0 with ⟨_, rfl, rfl, _⟩ | ⟨_, _, h, _⟩
    · omega
    · exact h
  obtain ⟨l, rfl, hr0⟩ := isRow_bytes h0
  clear h0
  obtain ⟨hm1, hq⟩ := h1
  have HR0 := Lib.hid hr0
  have HQ := Lib.hid hq
  have HNil := Lib.hid hnil
  clear hr0 hq hnil
  by_cases h300 : 300 < l.length
  · go_enter Try.func6, Try.ntmps6
    go_wp2_with (go_at_call 20; refine (known_any _).mono ?_; rintro e w' ⟨rfl, hb⟩)
    go_ret
    exact ⟨rfl, hb⟩
  by_cases h60 : 60 < len1
  · go_enter Try.func6, Try.ntmps6
    go_wp2_with (go_at_call 20; refine (known_any _).mono ?_; rintro e w' ⟨rfl, hb⟩)
    go_ret
    exact ⟨rfl, hb⟩
  go_enter Try.func6, Try.ntmps6
  go_upto_region 4 with (at_builtin; refine wpList_app8 rfl (.const (.slice none 0 0)) (.tmp 22) rfl w.heap.size _ [] rfl (O8.nil _ _) a0 l cap0 rfl HR0.out HNil.out (by simp only [List.length_nil]; omega) (Nat.le_refl _) ?_; intro v2 w2 ho2 hg2 _; simp only [List.nil_append] at ho2)
  have hg2' : w.grownBy w2 none := hg2
  have HB2 := Lib.hid ((Below.refl w.heap.size w).grown hg2' (Nat.le_refl _) (by intro k hk; cases hk))
  obtain ⟨a2, c2, rfl, hrow2, hnil2, hown2⟩ := ho2.row
  have hform : l ≠ [] → ∃ g, a2 = some ⟨g, 0, none⟩ := by
    intro hl
    rcases ha : a2 with _ | x
    · exact absurd (hnil2 ha).2 hl
    · exact ⟨x.block, by rw [(hown2 x ha).1]⟩
  have HForm := Lib.hid hform
  have HO2 := Lib.hid ho2
  have HRow2 := Lib.hid hrow2
  clear ho2 hg2 hg2' hrow2 hnil2 hown2 hform
  have HNew := Lib.hid (new_any w2 a2 l c2 (by omega) HRow2.out)
  go_wp2_with fail
  go_fit HNew.out
  rintro e w3 ⟨rfl, hR, hb3⟩
  have hlo := HB2.out.size
  have HB3 := Lib.hid (HB2.out.trans (hb3.mono HB2.out.size))
  have HO3 := Lib.hid (HO2.out.below hb3)
  have hkr := HO2.out.lt
  have HK := Lib.hid hkr
  have HR3 := Lib.hid hR
  clear hkr hR hb3 HNew HO2 HRow2
  generalize w2.heap.size = r at *
  go_wp2_with fail
  go_loopw [30] (fun i wr => ∃ (k : Nat) (l' : List UInt8), k ≤ l.length ∧ i = .int .i64 k ∧ l'.length = l.length ∧ O8 wr w.heap.size (.slice a2 l.length c2) l' ∧ Rd wr r ⟨l.toArray⟩ 0 ∧ Below w.heap.size w wr) (fun i _ => l.length - (intOf i).toNat)
  case atStart => exact ⟨0, l, by omega, rfl, rfl, HO3.out, HR3.out, HB3.out⟩
  case round =>
    obtain ⟨k, l', hk, rfl, hl', ho, hR, hB⟩ := hrel
    have HO := Lib.hid ho
    have HR := Lib.hid hR
    have HB := Lib.hid hB
    have HL' := Lib.hid hl'
    clear ho hR hB
    by_cases hlt : k < l.length
    · obtain ⟨g, rfl⟩ := HForm.out (by intro e; subst e; simp at hlt)
      have hlt' : k < l'.length := by omega
      obtain ⟨m, hm, hm2⟩ : ∃ m : Nat, m = l'[k].toNat ∧ m < 256 := ⟨_, rfl, by have := l'[k].toNat_lt; omega⟩
      have hcell : wr.cell? ⟨g, k, none⟩ = some (.int .u8 (m : Int)) := by
        have ho := HO.out
        unfold O8 at ho
        rw [hl'] at ho
        rw [World.ownsRow.cellAt ho k (by omega), hm]
        simp [cells8, hlt']
      have hfree : wr.frozen? ⟨g, k, none⟩ = false := by
        have ho := HO.out
        unfold O8 at ho
        rw [hl'] at ho
        exact World.ownsRow.frozenAt ho _
      clear hm hl'
      go_wp2_with fail
      go_roundw
      case rel =>
        obtain ⟨⟨l2, h1, h2⟩, h3⟩ := HO.out.bump HL'.out k m
        have hk2 := HK.out g rfl
        exact ⟨k + 1, l2, by omega, by go_num, h1, h2, HR.out.gb h3 (by omega), HB.out.setCell (by simpa using hk2.1) _⟩
      case measure => simp [intOf]; omega
    · obtain rfl : k = l.length := by omega
      have hend : ¬ (l.length : Int) < (l.length : Int) := by omega
      have hrlo : w.heap.size ≤ r := hlo
      clear HO HL' HK HR3 HB3 HO3 HForm
      go_wp2_with fail
      obtain ⟨wo, rfl⟩ : ∃ wo : World, wo = wr := ⟨_, rfl⟩
      go_loopw [6, 8, 42] (fun x y i wy => ∃ k rr p : Nat, k ≤ len1 ∧ x = .pointer (some ⟨rr, 0, none⟩) ∧ y = .int .i64 (p : Int) ∧ i = .int .i64 (k : Int) ∧ Rd wy rr ⟨l.toArray⟩ p ∧ w.heap.size ≤ rr ∧ Below w.heap.size w wy) (fun _ _ i _ => len1 - (intOf i).toNat)
      case atStart => exact ⟨0, r, 0, by omega, rfl, rfl, rfl, HR.out, hrlo, HB.out⟩
      case round =>
        obtain ⟨k, rr, p, hk, rfl, rfl, rfl, hR, hlo2, hB⟩ := hrel
        clear HR HB hrlo
        have HR := Lib.hid hR
        have HB := Lib.hid hB
        clear hR hB
        by_cases hlt : k < len1
        · obtain ⟨b, o, rfl, hc⟩ := HQ.out.resolve_left (by omega)
          obtain ⟨c0, c1, c2, b1, b2⟩ := hc k hlt
          obtain ⟨what, n, most, hqk⟩ : ∃ what n most, q k = (what, n, most) := ⟨_, _, _, rfl⟩
          rw [hqk] at c0 c1 c2 b1 b2
          simp only at c0 c1 c2 b1 b2
          rw [← HB.out.cell (p := ⟨b, _, none⟩) (lt_of_cell c0)] at c0
          rw [← HB.out.cell (p := ⟨b, _, none⟩) (lt_of_cell c1)] at c1
          rw [← HB.out.cell (p := ⟨b, _, none⟩) (lt_of_cell c2)] at c2
          clear hc hqk
          obtain ⟨n, rfl⟩ := Int.eq_ofNat_of_zero_le b1.1
          have hn64 : n < 18446744073709551616 := by omega
          clear b1
          go_upto_region 16 with fail
          go_cut [53] from 46 to 53 (fun s wx => ∃ bb : Bool, s = .bool bb ∧ (bb = true → what < 0 ∨ 3 < what) ∧ (bb = false → 0 ≤ what ∧ what ≤ 3) ∧ wx = wr.alloc (.cells #[.int .i64 what, .int .u64 (n : Int), .int .i64 most] 55))
          case first =>
            by_cases hneg : what < 0
            · go_wp2_with fail
              go_meet
              exact ⟨true, rfl, fun _ => .inl hneg, (by simp), rfl⟩
            by_cases hbig : 3 < what
            · go_wp2_with fail
              go_meet
              exact ⟨true, rfl, fun _ => .inr hbig, (by simp), rfl⟩
            · go_wp2_with fail
              go_meet
              exact ⟨false, rfl, (by simp), fun _ => by omega, rfl⟩
          case rest =>
            obtain ⟨bb, rfl, hbt, hbf, rfl⟩ := hcut
            have HBt := Lib.hid hbt
            have HBf := Lib.hid hbf
            clear hbt hbf c0 c1 c2
            have hba : Below wr.heap.size wr (wr.alloc (.cells #[.int .i64 what, .int .u64 (n : Int), .int .i64 most] 55)) := (Below.refl _ _).alloc (Nat.le_refl _) _
            have hwr := HB.out.size
            have HRa := Lib.hid (HR.out.keep hba)
            have HBa := Lib.hid (HB.out.trans (hba.mono HB.out.size))
            have HRow := Lib.hid (HR0.out.keep HBa.out)
            have hrl := HR.out.lt
            have hp := HR.out.2.1
            have hp : p ≤ l.length := by simpa [ByteArray.size] using hp
            clear hba HR HB
            go_upto_if 53 with fail
            go_cut [6, 8, 11, 12] from 54 to 73 (fun x y _ _ wx => ∃ rr' p' : Nat, x = .pointer (some ⟨rr', 0, none⟩) ∧ y = .int .i64 (p' : Int) ∧ Rd wx rr' ⟨l.toArray⟩ p' ∧ w.heap.size ≤ rr' ∧ Below w.heap.size w wx)
            case first =>
              by_cases hbb : bb = true
              · subst hbb
                clear HBt HBf
                generalize wr.alloc (.cells #[.int .i64 what, .int .u64 (n : Int), .int .i64 most] 55) = wa at *
                have HC := Lib.hid (copy_of wa rr _ p HRa.out)
                go_wp2_with fail
                go_fit HC.out
                rintro e w5 ⟨r5, rfl, hle5, hR5, hb5⟩
                have HN := Lib.hid (num_some w5 rr _ p (HRa.out.keep hb5))
                have hne : r5 ≠ rr := fun e => by have := HRa.out.lt; omega
                have HR5 := Lib.hid hR5
                have HB5 := Lib.hid (HBa.out.trans (hb5.mono HBa.out.size))
                have hs5 : w.heap.size ≤ r5 := Nat.le_trans HBa.out.size hle5
                clear hR5 hb5 hle5 HC
                go_wp2_with fail
                go_fit HN.out
                rintro e w6 ⟨v1, v2, p6, rfl, hR6, hG6⟩
                have HW := Lib.hid (raw_some w6 rr _ p6 1 hR6)
                have HR6 := Lib.hid (HR5.out.gb hG6 hne)
                have HB6 := Lib.hid (below_gb HB5.out hG6 HB5.out.size hlo2)
                clear HR5 HB5 hR6 hG6 HN
                go_wp2_with fail
                go_fit HW.out
                rintro e w7 ⟨v3, v4, p7, rfl, -, hG7⟩
                have HR7 := Lib.hid (HR6.out.gb hG7 hne)
                have HB7 := Lib.hid (below_gb HB6.out hG7 HB6.out.size hlo2)
                clear HR6 HB6 hG7 HW hne
                go_wp2_with fail
                go_meet
                exact ⟨r5, p, rfl, rfl, HR7.out, hs5, HB7.out⟩
              · obtain rfl : bb = false := by simpa using hbb
                obtain ⟨hw1, hw2⟩ := HBf.out rfl
                clear HBt HBf hbb
                obtain ⟨a', c', hsl, hrow', hc'⟩ := slice_from cap0 p (p : Int) rfl hp hcap HRow.out
                have hdl : (l.drop p).length = l.length - p := List.length_drop
                have hA := fun (wx : World) (hR : Rd wx rr ⟨l.toArray⟩ p) (hrow : Row8 wx a' (l.drop p)) => asks_any wx rr ⟨l.toArray⟩ p hR (l.drop p) rfl a' c' (by omega) hrow what n hn64 most b2.1 b2.2 hw1 hw2
                have hsz := asz_le (l.drop p) what n most
                rw [hdl] at hA hsz
                generalize asz (l.drop p) what n most = sz at *
                have HA := Lib.hid hA
                have HRow' := Lib.hid hrow'
                clear hA hrow' hdl hc'
                have hgd := gb_drew (gb_refl (wr.alloc (.cells #[.int .i64 what, .int .u64 (n : Int), .int .i64 most] 55)) (some rr))
                have HGd := Lib.hid hgd
                clear hgd
                go_wp2_with fail
                go_region_with (go_at_call 32; refine (HA.out _ HRa.out.drew HRow'.out.drew).mono ?_; rintro e w5 ⟨rfl, hR5, hG5⟩; have HR5 := Lib.hid hR5; have HB5 := Lib.hid (below_gb HBa.out (gb_trans HGd.out hG5) HBa.out.size hlo2); clear hR5 hG5)
                all_goals go_wp2_with fail
                all_goals go_meet
                all_goals exact ⟨rr, p + sz, rfl, by go_num, HR5.out, hlo2, HB5.out⟩
            case rest =>
              obtain ⟨rr', p', rfl, rfl, hR, hlo3, hB⟩ := hcut
              clear HRa HBa HRow HBt HBf hrl hlo2 hp
              have hp := hR.2.1
              have hp : p' ≤ l.length := by simpa [ByteArray.size] using hp
              have HR := Lib.hid hR
              have HB := Lib.hid hB
              clear hR hB
              have HAt := Lib.hid (fun (wx : World) (hR : Rd wx rr' ⟨l.toArray⟩ p') => at_no wx rr' _ p' hR)
              have HLf := Lib.hid (left_of w.heap.size w rr' l p')
              by_cases hend : p' = l.length
              · have HFn := Lib.hid (fin_of w.heap.size w rr' l p' 0 (if_pos hend))
                subst hend
                go_wp2_with fail
                go_fit (HAt.out _ HR.out)
                rintro e w5 ⟨rfl, rfl⟩
                go_wp2_with fail
                go_fit (HLf.out _ HR.out HB.out)
                rintro e w5 ⟨rfl, hR5, hB5⟩
                have HR5 := Lib.hid hR5
                have HB5 := Lib.hid hB5
                clear hR5 hB5 HAt HLf HR HB
                go_wp2_with fail
                go_fit (HFn.out _ HR5.out HB5.out)
                rintro e w6 ⟨rfl, hR6, hB6⟩
                have HR6 := Lib.hid hR6
                have HB6 := Lib.hid hB6
                clear hR6 hB6 HR5 HB5 HFn
                go_wp2_with fail
                go_roundw
                case rel => exact ⟨k + 1, rr', l.length, by omega, rfl, rfl, by go_num, HR6.out, hlo3, HB6.out⟩
                case measure => simp [intOf]; omega
              · have HFn := Lib.hid (fin_of w.heap.size w rr' l p' 12 (if_neg hend))
                have hlt2 : (p' : Int) < (l.length : Int) := by omega
                have HE := Lib.hid hend
                clear hend
                go_wp2_with fail
                go_fit (HAt.out _ HR.out)
                rintro e w5 ⟨rfl, rfl⟩
                go_wp2_with fail
                go_fit (HLf.out _ HR.out HB.out)
                rintro e w5 ⟨rfl, hR5, hB5⟩
                have HR5 := Lib.hid hR5
                have HB5 := Lib.hid hB5
                clear hR5 hB5 HAt HLf HR HB
                go_wp2_with fail
                go_fit (HFn.out _ HR5.out HB5.out)
                rintro e w6 ⟨rfl, hR6, hB6⟩
                have HR6 := Lib.hid hR6
                have HB6 := Lib.hid hB6
                clear hR6 hB6 HR5 HB5
                go_wp2_with fail
                go_fit (HFn.out _ HR6.out HB6.out)
                rintro e w7 ⟨rfl, hR7, hB7⟩
                have HR7 := Lib.hid hR7
                have HB7 := Lib.hid hB7
                clear hR7 hB7 HR6 HB6 HFn
                go_wp2_with fail
                go_roundw
                case rel => exact ⟨k + 1, rr', p', by omega, rfl, rfl, by go_num, HR7.out, hlo3, HB7.out⟩
                case measure => simp [intOf]; omega
        · obtain rfl : k = len1 := by omega
          have HBx := Lib.hid HB.out
          have hend : ¬ (k : Int) < (k : Int) := by omega
          clear HR HB HQ
          go_wp2_with (go_at_call 20; refine (known_any _).mono ?_; rintro e w' ⟨rfl, hb⟩)
          go_ret
          exact ⟨rfl, HBx.out.trans (hb.mono HBx.out.size)⟩

end Go.Proofs.Ytjkiollopajmoaa.V
