/-
  VarintNumbers: every number gives true.
-/
import Derived.Test.YtjkiollopajmoaaVKnown
import Derived.Test.YtjkiollopajmoaaVRefNum
import Derived.Test.YtjkiollopajmoaaVSize
import Derived.Deep.RegionWith
import Derived.RegionTactic
import Derived.Deep.CutRange
namespace Go.Proofs.Ytjkiollopajmoaa.V
set_option linter.unusedVariables false
open Go.RowKit

theorem refZag_of (n : Nat) (h : n < 18446744073709551616) (z : Int) (hz : z = zag n) (w : World) :
    Calls Try.prog 13 #[.int .u64 (n : Int)] w fun e w' => e = .returned (.int .i64 z) ∧ w = w' := by subst hz; exact refZag_any n w h

theorem new_of (w : World) (a : Option Addr) (l : List UInt8) (c : Nat) (hl : l.length ≤ 9223372036854775807) (h : Row8 w a l) :
    Calls Try.prog 15 #[.slice a l.length c] w fun e w' => ∃ r, e = .returned (.pointer (some ⟨r, 0, none⟩)) ∧ w.heap.size ≤ r ∧ Rd w' r ⟨l.toArray⟩ 0 ∧ Below w.heap.size w w' :=
  (new_any w a l c hl h).mono fun e w' ⟨he, hR, hB⟩ => ⟨_, he, Nat.le_refl _, hR, hB⟩

set_option maxRecDepth 100000 in
set_option maxHeartbeats 8000000 in
theorem numbers_walk (x : Int) (w : World) (hx : (Lit.int .u64 x).wf = true) :
    Calls Try.prog 3 #[.int .u64 x] w fun e w' => e = .returned (.bool true) ∧ Below w.heap.size w w' := by
  have hx2 : 0 ≤ x ∧ x ≤ 18446744073709551615 := by simpa [Lit.wf, IntKind.min, IntKind.max, IntKind.signed, IntKind.bits] using hx
  obtain ⟨n, rfl⟩ := Int.eq_ofNat_of_zero_le hx2.1
  have hn : n < 18446744073709551616 := by omega
  clear hx hx2
  have HNum := Lib.hid (number_any (n + 1) n w (by omega) hn)
  have HLnum := Lib.hid (fun w => lnum_any n hn (n : Int) rfl w)
  have HSize := Lib.hid (fun w => size_any n w hn)
  have h10 := num_ten hn
  have hpos := num_pos n
  have hrd := rd_written hn []
  rw [List.append_nil] at hrd
  have HL := Lib.hid hrd
  clear hrd
  have hz1 := zag_lo hn
  have hz2 := zag_hi hn
  have hzz : zig (zag n) = n := zig_zag n
  obtain ⟨z, hz⟩ : ∃ z, z = zag n := ⟨_, rfl⟩
  rw [← hz] at hz1 hz2 hzz
  have HZ := Lib.hid hz
  have HZig := Lib.hid (fun w => zig_of z (n : Int) w hz1 hz2 (by rw [hzz]))
  clear hz hzz
  obtain ⟨l, hl⟩ : ∃ l, l = num n := ⟨_, rfl⟩
  rw [← hl] at HNum HLnum HSize h10 hpos HL
  have HLn := Lib.hid hl
  clear hl
  go_enter Try.func3, Try.ntmps3
  go_wp2_with fail
  refine HNum.out.mono ?_
  rintro e w1 ⟨v, rfl, ho1, hb1⟩
  obtain ⟨a, c, rfl, hrow1, hnil1, hown1⟩ := ho1.row
  have hcv := conv_row (P := Try.prog) (w := w1.drew) hrow1 c 23 9 5 Try.underlying23 Try.underlying5 Try.underlying9
  have HO1 := Lib.hid ho1
  have HB1 := Lib.hid hb1
  have HR1 := Lib.hid hrow1
  have HN1 := Lib.hid hnil1
  have HW1 := Lib.hid hown1
  clear ho1 hb1 hrow1 hnil1 hown1 HNum
  go_wp2_with fail
  go_cut [35] from 10 to 35 (fun s wx => s = .bool false ∧ Below w1.heap.size w1 wx)
  case first =>
    go_region_with (first | (go_at_call 10; refine (HLnum.out _).mono ?_; rintro e w2 ⟨rfl, hb2⟩; have hcv2 := conv_row (P := Try.prog) (w := w2) (HR1.out.drew.keep hb2) c 23 9 5 Try.underlying23 Try.underlying5 Try.underlying9) | (go_at_call 11; refine (HSize.out _).mono ?_; rintro e w3 ⟨rfl, rfl⟩) | (go_at_call 12; refine (zag_of n (n : Int) z _ rfl hn HZ.out.symm).mono ?_; rintro e w3 ⟨rfl, rfl⟩) | (go_at_call 13; refine (refZag_of n hn z HZ.out _).mono ?_; rintro e w3 ⟨rfl, rfl⟩) | (go_at_call 14; refine (HZig.out _).mono ?_; rintro e w3 ⟨rfl, rfl⟩))
    all_goals (go_wp2_with fail; go_meet)
    all_goals exact ⟨rfl, ⟨hb2.os, hb2.tape, hb2.output, hb2.size, hb2.block⟩⟩
  case rest =>
    obtain ⟨rfl, hbc⟩ := hcut
    have HBc := Lib.hid (HB1.out.trans (hbc.mono HB1.out.size))
    have HRc := Lib.hid (HR1.out.keep hbc)
    have HOc := Lib.hid (HO1.out.below hbc)
    clear hbc HO1 HB1 HR1 HW1 hcv HSize HLnum
    go_wp2_with fail
    refine (new_of _ a l c (by omega) HRc.out).mono ?_
    rintro e w3 ⟨r, rfl, hle, hR, hb⟩
    have hlor := Nat.le_trans HBc.out.size hle
    have hler := hle
    have HOc' := HOc.out
    have HB3 := Lib.hid (HBc.out.trans (hb.mono HBc.out.size))
    have HR3 := Lib.hid (HRc.out.keep hb)
    have HO3 := Lib.hid (HOc.out.below hb)
    have HRr := Lib.hid hR
    clear HBc HRc HOc hle hR hb
    go_wp2_with fail
    refine (new_of _ a l c (by omega) HR3.out).mono ?_
    rintro e w4 ⟨s, rfl, hle, hR, hb⟩
    have hlos := Nat.le_trans HB3.out.size hle
    have hrs : r ≠ s := Nat.ne_of_lt (Nat.lt_of_lt_of_le HRr.out.lt hle)
    have hrs2 : r < s := Nat.lt_of_lt_of_le HRr.out.lt hle
    have HB4 := Lib.hid (HB3.out.trans (hb.mono HB3.out.size))
    have HR4 := Lib.hid (HR3.out.keep hb)
    have HO4 := Lib.hid (HO3.out.below hb)
    have HRr4 := Lib.hid (HRr.out.keep hb)
    have HRs4 := Lib.hid hR
    clear HB3 HR3 HO3 HRr hle hR hb
    have hkr : ∀ k, (Value.slice a l.length c).ownBlock = some k → k < r := fun k hk => Nat.lt_of_lt_of_le (HOc'.lt k hk).2 hler
    have HK := Lib.hid hkr
    clear hkr HOc' hler
    go_upto_region 5 with fail
    go_cut [75] from 40 to 75 (fun x wx => x = .bool false ∧ Below w.heap.size w wx ∧ O8 wx w.heap.size (.slice a l.length c) l)
    case first =>
      have tail : ∀ (wx : World), Rd wx r ⟨l.toArray⟩ 0 → Rd wx s ⟨l.toArray⟩ 0 → Below w.heap.size w wx → O8 wx w.heap.size (.slice a l.length c) l →
          Calls Try.prog 16 #[.pointer (some ⟨r, 0, none⟩), .int .u64 (n : Int), .int .u64 (n : Int), .int .i64 0] wx fun e w' =>
            e = .returned (.bool true) ∧ Rd w' r ⟨l.toArray⟩ l.length ∧ Rd w' s ⟨l.toArray⟩ 0 ∧ Below w.heap.size w w' ∧ O8 w' w.heap.size (.slice a l.length c) l := by
        intro wx h1 h2 h3 h4
        have hf := rn_fine HL.out n rfl (by omega)
        refine (reads_no wx r ⟨l.toArray⟩ 0 n _ _ _ h1 rfl (by show _ = ((rn l n).1 : Int); rw [hf]) (by show _ = ((rn l n).2.2 : Int); rw [hf]; rfl)).mono fun e w' ⟨he, hR, hG⟩ => ⟨he, ?_, h2.gb hG hrs.symm, below_gb h3 hG h3.size hlor, h4.keep hG ?_⟩
        · have : 0 + (rn l n).2.1 = l.length := by rw [hf]; simp
          rw [← this]; exact hR
        · rcases ho : (Value.slice a l.length c).ownBlock with _ | k
          · exact .inl rfl
          · right
            have := HK.out k ho
            simp; omega
      have HT := Lib.hid tail
      clear tail
      by_cases h0 : 0 < n
      · have hf := rn_range HL.out (n - 1) rfl (by omega)
        have HA := Lib.hid (reads_no w4 r ⟨l.toArray⟩ 0 (n - 1) ((n : Int) - 1) 0 3 HRr4.out (by omega) (by show _ = ((rn l (n - 1)).1 : Int); rw [hf]; rfl) (by show _ = ((rn l (n - 1)).2.2 : Int); rw [hf]; rfl))
        have hz0 : 0 + (rn ((⟨l.toArray⟩ : ByteArray).data.toList.drop 0) (n - 1)).2.1 = 0 := by show 0 + (rn l _).2.1 = 0; rw [hf]; rfl
        rw [hz0] at HA
        clear hf hz0
        go_wp2_with fail
        refine HA.out.mono ?_
        rintro e w5 ⟨rfl, hR, hG⟩
        have HS5 := Lib.hid (HRs4.out.gb hG hrs.symm)
        have HB5 := Lib.hid (below_gb HB4.out hG HB4.out.size hlor)
        have HO5 := Lib.hid (HO4.out.keep hG (by
          rcases ho : (Value.slice a l.length c).ownBlock with _ | k
          · exact .inl rfl
          · right
            have := HK.out k ho
            simp; omega))
        have HR5 := Lib.hid hR
        clear hR hG HA
        go_wp2_with fail
        refine (HT.out w5 HR5.out HS5.out HB5.out HO5.out).mono ?_
        rintro e w6 ⟨rfl, hR, hS, hB, hO⟩
        have HR6 := Lib.hid hR
        have HS6 := Lib.hid hS
        have HB6 := Lib.hid hB
        have HO6 := Lib.hid hO
        clear hR hS hB hO
        go_wp2_with fail
        refine (end_of w6 r ⟨l.toArray⟩ l.length 0 HR6.out (by rw [if_pos (by simp [ByteArray.size])])).mono ?_
        rintro e w7 ⟨rfl, hR, hG⟩
        have HS7 := Lib.hid (HS6.out.gb hG hrs.symm)
        have HB7 := Lib.hid (below_gb HB6.out hG HB6.out.size hlor)
        have HO7 := Lib.hid (HO6.out.keep hG (by
          rcases ho : (Value.slice a l.length c).ownBlock with _ | k
          · exact .inl rfl
          · right
            have := HK.out k ho
            simp; omega))
        clear hR hG HR6 HS6 HB6 HO6
        go_wp2_with fail
        refine (refZag_of n hn z HZ.out _).mono ?_
        rintro e w' ⟨rfl, rfl⟩
        have hf9 := rn_fine HL.out 18446744073709551615 rfl (by omega)
        have HQ := Lib.hid (signed_no w7 s ⟨l.toArray⟩ 0 z 0 HS7.out (by show _ = zag (rn l _).1; rw [hf9]; exact HZ.out) (by show _ = ((rn l _).2.2 : Int); rw [hf9]; rfl))
        clear hf9
        go_wp2_with fail
        refine HQ.out.mono ?_
        rintro e w8 ⟨rfl, hR, hG⟩
        have HB8 := Lib.hid (below_gb HB7.out hG HB7.out.size hlos)
        have HO8 := Lib.hid (HO7.out.keep hG (by
          rcases ho : (Value.slice a l.length c).ownBlock with _ | k
          · exact .inl rfl
          · right
            have := HK.out k ho
            simp; omega))
        clear hR hG HQ HS7 HB7 HO7
        go_wp2_with fail
        go_meet
        exact ⟨rfl, HB8.out, HO8.out⟩
      · go_wp2_with fail
        refine (HT.out w4 HRr4.out HRs4.out HB4.out HO4.out).mono ?_
        rintro e w6 ⟨rfl, hR, hS, hB, hO⟩
        have HR6 := Lib.hid hR
        have HS6 := Lib.hid hS
        have HB6 := Lib.hid hB
        have HO6 := Lib.hid hO
        clear hR hS hB hO
        go_wp2_with fail
        refine (end_of w6 r ⟨l.toArray⟩ l.length 0 HR6.out (by rw [if_pos (by simp [ByteArray.size])])).mono ?_
        rintro e w7 ⟨rfl, hR, hG⟩
        have HS7 := Lib.hid (HS6.out.gb hG hrs.symm)
        have HB7 := Lib.hid (below_gb HB6.out hG HB6.out.size hlor)
        have HO7 := Lib.hid (HO6.out.keep hG (by
          rcases ho : (Value.slice a l.length c).ownBlock with _ | k
          · exact .inl rfl
          · right
            have := HK.out k ho
            simp; omega))
        clear hR hG HR6 HS6 HB6 HO6
        go_wp2_with fail
        refine (refZag_of n hn z HZ.out _).mono ?_
        rintro e w' ⟨rfl, rfl⟩
        have hf9 := rn_fine HL.out 18446744073709551615 rfl (by omega)
        have HQ := Lib.hid (signed_no w7 s ⟨l.toArray⟩ 0 z 0 HS7.out (by show _ = zag (rn l _).1; rw [hf9]; exact HZ.out) (by show _ = ((rn l _).2.2 : Int); rw [hf9]; rfl))
        clear hf9
        go_wp2_with fail
        refine HQ.out.mono ?_
        rintro e w8 ⟨rfl, hR, hG⟩
        have HB8 := Lib.hid (below_gb HB7.out hG HB7.out.size hlos)
        have HO8 := Lib.hid (HO7.out.keep hG (by
          rcases ho : (Value.slice a l.length c).ownBlock with _ | k
          · exact .inl rfl
          · right
            have := HK.out k ho
            simp; omega))
        clear hR hG HQ HS7 HB7 HO7
        go_wp2_with fail
        go_meet
        exact ⟨rfl, HB8.out, HO8.out⟩
    case rest =>
      obtain ⟨rfl, hB, hO⟩ := hcut
      obtain ⟨g, rfl, hcap⟩ : ∃ g, a = some ⟨g, 0, none⟩ ∧ l.length ≤ c := by
        rcases hO.2 with ⟨e, _⟩ | ⟨g, cap, cur, e, _, _, hn, _⟩
        · simp only [Value.slice.injEq] at e; omega
        · simp only [Value.slice.injEq] at e
          obtain ⟨e1, _, e3⟩ := e
          exact ⟨g, e1, by omega⟩
      have HB := Lib.hid hB
      have HO := Lib.hid hO
      clear hB hO HB4 HR4 HO4 HRr4 HRs4 HK
      go_wp2_with fail
      go_loopw [6] (fun i wr => ∃ k : Nat, k ≤ l.length ∧ i = .int .i64 k ∧ Below w.heap.size w wr ∧ O8 wr w.heap.size (.slice (some ⟨g, 0, none⟩) l.length c) l) (fun i _ => l.length - (intOf i).toNat)
      case atStart => exact ⟨0, by omega, rfl, HB.out, HO.out⟩
      case round =>
        obtain ⟨k, hk, rfl, hB, hO⟩ := hrel
        have HB := Lib.hid hB
        have HO := Lib.hid hO
        clear hB hO
        obtain ⟨_, _, e, hrow, -⟩ := HO.out.row
        cases e
        have HRow := Lib.hid hrow
        clear hrow
        by_cases hlt : k < l.length
        · have hkc : k ≤ c := by omega
          have hlk : (l.take k).length = k := by rw [List.length_take]; omega
          have hrt : rn (l.take k) 18446744073709551615 = (0, 0, 4) := by
            refine rn_fail (n := 0) (z := 0) ?_ _ (by omega)
            rw [HLn.out] at hlt ⊢
            exact rd_take (n + 1) n 0 0 k (by omega) (by omega) (by simpa using hn) hlt
          have hpart : Row8 wr (some ⟨g, 0, none⟩) (l.take k) := by
            have := HRow.out.part 0 k (by omega)
            simpa using this
          have HC := Lib.hid (first_any wr 4 (some ⟨g, 0, none⟩) (l.take k) c (by omega) hpart (by rw [hrt]; exact ⟨rfl, rfl⟩) (by rw [hrt]; rfl))
          rw [hlk] at HC
          clear hrt hpart hlk
          go_wp2_with fail
          go_fit HC.out
          rintro e w5 ⟨rfl, hb5⟩
          have HB5 := Lib.hid (HB.out.trans (hb5.mono HB.out.size))
          have HO5 := Lib.hid (HO.out.below hb5)
          clear hb5
          go_wp2_with fail
          go_roundw
          case rel => exact ⟨k + 1, by omega, by go_num, HB5.out, HO5.out⟩
          case measure => simp [intOf]; omega
        · obtain rfl : k = l.length := by omega
          have hend : ¬ (l.length : Int) < (l.length : Int) := by omega
          go_upto_region 13 with (at_builtin; refine wpList_app8 rfl (.const (.slice none 0 0)) (.tmp 87) rfl w.heap.size _ [] rfl (O8.nil _ _) (some ⟨g, 0, none⟩) l c rfl HRow.out (by simp) (by simp only [List.length_nil]; omega) HB.out.size ?_; intro v2 w2 ho2 hg2 _; simp only [List.nil_append] at ho2)
          obtain ⟨g2, c2, rfl⟩ : ∃ g2 c2, v2 = .slice (some ⟨g2, 0, none⟩) l.length c2 := by
            rcases ho2.2 with ⟨_, h0⟩ | ⟨g2, cap, cur, e, _⟩
            · omega
            · exact ⟨g2, cap, e⟩
          have hg2' : wr.grownBy w2 none := hg2
          have HB2 := Lib.hid (HB.out.grown hg2' HB.out.size (by intro k hk; cases hk))
          have hlast := num_last (n + 1) n (by omega)
          rw [← HLn.out] at hlast
          have hm := lst_lt (n + 1) n (by omega)
          have hcell : w2.cell? ⟨g2, l.length - 1, none⟩ = some (.int .u8 ((lst n : Nat) : Int)) := by
            rw [World.ownsRow.cellAt ho2 (l.length - 1) (by omega)]
            have : l[l.length - 1]? = some (UInt8.ofNat (lst n)) := hlast
            simp only [cells8, List.getElem?_map, this, Option.map_some]
            congr 2
            simp; omega
          have hfree : w2.frozen? ⟨g2, l.length - 1, none⟩ = false := World.ownsRow.frozenAt ho2 _
          have hset : O8 (w2.setCell ⟨g2, l.length - 1, none⟩ (.int .u8 (((lst n : Nat) : Int) + 128))) w.heap.size (.slice (some ⟨g2, 0, none⟩) l.length c2) (l.set (l.length - 1) (UInt8.ofNat (lst n + 128))) := by
            have := (World.ownsRow.stored ho2 (l.length - 1) (.int .u8 (((lst n : Nat) : Int) + 128))).1
            unfold O8
            have e : cells8 (l.set (l.length - 1) (UInt8.ofNat (lst n + 128))) = (cells8 l).set (l.length - 1) (.int .u8 (((lst n : Nat) : Int) + 128)) := by
              unfold cells8
              rw [List.map_set]
              congr 2
              simp; omega
            rw [e, List.length_set]
            exact this
          have hb3 : Below w.heap.size w (w2.setCell ⟨g2, l.length - 1, none⟩ (.int .u8 (((lst n : Nat) : Int) + 128))) := HB2.out.setCell (ho2.lt g2 rfl).1 _
          have hlong := rd_longer (n + 1) n 0 0 (by omega) (by omega) (by simpa using hn)
          rw [← HLn.out] at hlong
          have HS := Lib.hid hset
          have HB3 := Lib.hid hb3
          have HG := Lib.hid hlong
          have i1 : (0 : Int) ≤ (l.length : Int) - 1 := by omega
          have i2 : ((l.length : Int) - 1).toNat = l.length - 1 := by omega
          clear ho2 hg2 hg2' hlast hset hb3 hlong hk hlt hend
          generalize lst n = m at *
          go_upto_region 14 with fail
          generalize w2.setCell ⟨g2, l.length - 1, none⟩ (.int .u8 ((m : Int) + 128)) = W3 at *
          generalize hl2 : l.set (l.length - 1) (UInt8.ofNat (m + 128)) = l2 at *
          have hlen2 : l2.length = l.length := by rw [← hl2, List.length_set]
          have HL2 := Lib.hid hlen2
          clear hl2 hlen2 hcell hfree
          go_wp2_with (at_builtin; refine wpList_app8 rfl (.tmp 97) (.tmp 98) rfl w.heap.size _ l2 rfl (HS.out.below ((Below.refl _ _).alloc (Nat.le_refl _) _)) (some ⟨W3.heap.size, 0, none⟩) [0] 1 rfl (row_one W3 0 _) (by simp) (by have := HL2.out; simp only [List.length_cons, List.length_nil]; omega) (by have := HB3.out.size; simp; omega) ?_; intro v4 w4' ho4 hg4 _; obtain ⟨a4, c4, rfl, hrow4, -⟩ := ho4.row)
          have hg4' : (W3.alloc (.cells #[.int .u8 0] 5)).grownBy w4' (some g2) := hg4
          have HB4 := Lib.hid ((HB3.out.alloc HB3.out.size (.cells #[.int .u8 0] 5)).grown hg4' (by have := HB3.out.size; simp; omega) (by intro k hk; cases hk; exact (HS.out.lt g2 rfl).1))
          have hrn := rn_fail HG.out 18446744073709551615 (by omega)
          have HF0 := (first_any w4' 12 a4 (l2 ++ [0]) c4 (by have := HL2.out; simp; omega) hrow4 (by rw [hrn]; exact ⟨rfl, rfl⟩) (by rw [hrn]; rfl))
          have e5 : (l2 ++ [(0 : UInt8)]).length = l2.length + 1 := by simp
          rw [e5] at HF0
          have HF := Lib.hid HF0
          clear HF0 hg4 hg4' hrn hrow4 ho4
          go_fit HF.out
          rintro e w5 ⟨rfl, hb5⟩
          have HB5 := Lib.hid (HB4.out.trans (hb5.mono HB4.out.size))
          clear hb5
          go_wp2_with fail
          refine (known_any _).mono ?_
          rintro e w6 ⟨rfl, hb6⟩
          have HB6 := Lib.hid (HB5.out.trans (hb6.mono HB5.out.size))
          clear hb6
          go_wp2_with fail
          go_ret
          exact ⟨rfl, HB6.out⟩

end Go.Proofs.Ytjkiollopajmoaa.V
