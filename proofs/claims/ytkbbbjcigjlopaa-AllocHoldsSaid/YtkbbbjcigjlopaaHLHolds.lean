/-
  AllocHolds: every input gives true.
-/
import Derived.Test.YtkbbbjcigjlopaaHKnown
namespace Go.Proofs.Ytkbbbjcigjlopaa.H
set_option linter.unusedVariables false
open Go.RowKit V Go.Sort D

theorem take_lit (g : Nat) (x : Al) (w : World) (h : Am w g x) (he : 1 ≤ x.e - x.l) : Calls Try.prog 18 #[.pointer (some ⟨g, 0, none⟩), .int .i64 1] w fun e w' => ∃ b, e = .returned (.tuple #[.slice (some ⟨b, 0, none⟩) 1 1, .int .i64 0]) ∧ RowD w' (some ⟨b, 0, none⟩) (dotsA x.r x.l 1) ∧ w.heap.size ≤ b ∧ Am w' g ⟨x.r, x.l + ((1 : Nat) : Int), x.e⟩ ∧ w.grownBy w' (some g) :=
  take_no g x 1 w h (by omega) he
theorem next_more {g : Nat} {r l e : Int} {w : World} (h : Am w g ⟨r, l, e⟩) (hl : l < e) : Calls Try.prog 22 #[.pointer (some ⟨g, 0, none⟩), .agg #[.int .i64 r, .int .i64 (l + 1)], .int .i64 0] w fun x w' => x = .returned (.bool true) ∧ Am w' g ⟨r, l + 1, e⟩ ∧ w.grownBy w' (some g) :=
  next_eq (d := (r, l + 1)) (y := ⟨r, l + 1, e⟩) (l := [(r, l + 1)]) h (by rw [take_one]; simp only; rw [if_neg (by omega)]) rfl
theorem ext_keeps (x : Al) (n : Int) : (extA x n).1.r = x.r ∧ (extA x n).1.l = x.l := by
  unfold extA
  split <;> exact ⟨rfl, rfl⟩
theorem pass_keeps (x : Al) (n : Int) : (passA x n).1.r = x.r ∧ x.l ≤ (passA x n).1.l := by
  unfold passA
  split
  · exact ⟨rfl, Int.le_refl _⟩
  · split
    · exact ⟨rfl, Int.le_refl _⟩
    · split
      · exact ⟨rfl, by simp only; omega⟩
      · exact ⟨rfl, Int.le_refl _⟩

set_option maxRecDepth 100000 in
set_option maxHeartbeats 8000000 in
theorem holds_law (r l e : Int) (ls : List Dt) (a : Option Addr) (c : Nat) (w : World) (hx : RowD w a ls) (hlx : ls.length ≤ 9223372036854775807) :
    Calls Try.prog 7 #[.int .i64 r, .int .i64 l, .int .i64 e, .slice a ls.length c] w fun x w' => x = .returned (.bool true) ∧ Below w.heap.size w w' := by
  have HK := Lib.hid (fun w => known_any w)
  have HF := Lib.hid (few_any ls a c w hx hlx)
  have HX := Lib.hid hx
  clear hx
  rcases hf : fewR ls with _ | _
  · rw [hf] at HF
    clear hf hlx
    go_enter Try.func7, Try.ntmps7
    go_wp2_with fail
    refine HF.out.mono ?_
    rintro e w1 ⟨rfl, rfl⟩
    go_wp2_with fail
    refine (HK.out _).mono ?_
    rintro e w2 ⟨rfl, hb⟩
    have HB := Lib.hid hb
    clear hb
    go_wp2_with fail
    go_ret
    exact ⟨rfl, HB.out⟩
  rw [hf] at HF
  have h60 : (ls.length : Int) ≤ 60 := by
    unfold fewR at hf
    rw [Bool.and_eq_true] at hf
    have := hf.1
    simp at this
    omega
  clear hlx
  rcases hn : newOk r l e with _ | _
  · have HN := Lib.hid (fun w => new_no r l e w hn)
    clear hn hf
    go_enter Try.func7, Try.ntmps7
    go_wp2_with fail
    refine HF.out.mono ?_
    rintro e w1 ⟨rfl, rfl⟩
    go_wp2_with fail
    refine (HN.out _).mono ?_
    rintro e w2 ⟨rfl, hb⟩
    have HB := Lib.hid hb
    clear hb
    go_wp2_with fail
    refine (HK.out _).mono ?_
    rintro e w4 ⟨rfl, hb⟩
    replace HB := bel_tr HB hb
    clear hb
    go_wp2_with fail
    go_ret
    exact ⟨rfl, HB.out⟩
  have HN := Lib.hid (fun w => new_ok r l e w hn)
  have HFew := Lib.hid hf
  clear hn hf
  go_enter Try.func7, Try.ntmps7
  go_wp2_with fail
  refine HF.out.mono ?_
  rintro x w1 ⟨rfl, rfl⟩
  go_wp2_with fail
  refine (HN.out _).mono ?_
  rintro x w3 ⟨g, rfl, hg, ha, hb⟩
  have HA := Lib.hid ha
  have HG := Lib.hid hg
  have HB := Lib.hid hb
  clear hb ha hg HN HF
  go_wp2_with fail
  go_loopw [11, 45] (fun pb i wr => ∃ (k : Nat) (yl ye bf : Int), k ≤ ls.length ∧ i = .int .i64 (k : Int) ∧ pb = .int .i64 bf ∧ Hid (Am wr g ⟨r, yl, ye⟩) ∧ Hid (bf ≤ yl) ∧ Hid (Below w1.heap.size w1 wr)) (fun _ i _ => ls.length - (intOf i).toNat)
  case atStart => exact ⟨0, l, e, l, Nat.zero_le _, rfl, rfl, HA, Int.le_refl _, HB⟩
  case round =>
    clear HA HB
    obtain ⟨k, yl, ye, bf, hk, rfl, rfl, HA, HBF, HB⟩ := hrel
    by_cases hlt : k < ls.length
    · have hi1 : (k : Int) < (ls.length : Int) := by omega
      obtain ⟨b1, o1, rfl, p0, p1⟩ := HX.out.get HB.out k hlt
      obtain ⟨q, hq⟩ : ∃ q, q = ls[k] := ⟨_, rfl⟩
      rw [← hq] at p0 p1
      have hix := ix_act b1 o1 ls.length c k (k : Int) rfl hlt
      clear hq
      obtain ⟨q1, q2⟩ := q
      simp only at p0 p1
      go_upto_region 12 with fail
      obtain ⟨c0, c1⟩ := cells_new wr (q1, q2) 36
      have hb4 := bel_box wr (.cells #[.int .i64 q1, .int .i64 q2] 36)
      replace HA := Lib.hid (HA.out.keep hb4)
      replace HB := bel_tr HB hb4
      simp only at c0 c1
      clear hb4 p0 p1 hix
      generalize wr.alloc (.cells #[.int .i64 q1, .int .i64 q2] 36) = wx at *
      generalize wr.heap.size = z at *
      go_wp2_with fail
      refine (copy_no g _ _ HA.out).mono ?_
      rintro e w5 ⟨g2, rfl, hg2, ha, hb⟩
      have HC := Lib.hid ha
      have hne : Hid (g2 ≠ g) := by have := HA.out.1.lt; show _ ≠ _; omega
      have HG2 : Hid (w1.heap.size ≤ g2) := by have := HB.out.size; show _ ≤ _; omega
      have HC5 : Hid (g2 < w5.heap.size) := ha.1.lt
      replace HA := Lib.hid (HA.out.keep hb)
      replace HB := bel_tr HB hb
      replace c0 := (hb.cell (p := ⟨_, _, none⟩) (lt_of_cell c0)).trans c0
      replace c1 := (hb.cell (p := ⟨_, _, none⟩) (lt_of_cell c1)).trans c1
      clear hb ha hg2
      by_cases h0 : q1 = 0
      · subst h0
        by_cases hq : ye - yl < 1
        · go_wp2_with fail
          refine (take_end g _ _ _ HA.out (by omega) (by omega) hq).mono ?_
          rintro e w6 ⟨rfl, hb⟩
          replace HA := Lib.hid (HA.out.keep hb)
          replace HB := bel_tr HB hb
          clear hb c0 c1
          go_wp2_with fail
          go_roundw
          case rel => exact ⟨k + 1, yl, ye, bf, by omega, by go_num, rfl, HA, HBF, HB⟩
          case measure => simp [intOf]; omega
        · have hd10 : decide ((0 : Int) = 1) = false := rfl
          go_wp2_with fail
          refine (take_lit g _ _ HA.out (by simp only; omega)).mono ?_
          rintro e w6 ⟨b, rfl, hr, hbb, ha, hg6⟩
          have HR := Lib.hid hr
          replace HA := Lib.hid ha
          replace HC := Lib.hid (HC.out.gb hg6 hne.out)
          replace HB := Lib.hid (below_gb HB.out hg6 HB.out.size HG.out)
          have HBB : Hid (b ≠ g2) := by have := HC5.out; show _ ≠ _; omega
          clear hr hbb ha hg6 c0 c1
          go_wp2_with fail
          obtain ⟨wo, hwo⟩ : ∃ wo : World, wo = wr := ⟨_, rfl⟩
          go_loopw [74] (fun i wy => ∃ j : Nat, j ≤ 1 ∧ i = .int .i64 (j : Int) ∧ Hid (Am wy g2 ⟨r, yl + (j : Int), ye⟩) ∧ Hid (Am wy g ⟨r, yl + ((1 : Nat) : Int), ye⟩) ∧ Hid (RowD wy (some ⟨b, 0, none⟩) (dotsA r yl 1)) ∧ Hid (Below w1.heap.size w1 wy)) (fun i _ => 1 - (intOf i).toNat)
          case atStart => exact ⟨0, Nat.zero_le _, rfl, (by rw [show yl + ((0 : Nat) : Int) = yl by omega]; exact HC), HA, HR, HB⟩
          case round =>
            clear HA HB HC HR
            obtain ⟨j, hj, rfl, HC, HA, HR, HB⟩ := hrel
            by_cases hjm : j < 1
            · have hj1 : (j : Int) < 1 := by omega
              obtain ⟨b1, o1, e1, p0, p1⟩ := HR.out.get (Below.refl _ _) j (by rw [dotsA_len]; exact hjm)
              simp only [Option.some.injEq, Addr.mk.injEq] at e1
              obtain ⟨rfl, rfl, -⟩ := e1
              have hv : (dotsA r yl 1)[j]'(by rw [dotsA_len]; exact hjm) = (r, yl + (j : Int) + 1) := by rw [dotsA_at]; congr 1; omega
              rw [hv] at p0 p1
              have hix := ix_dot0 b 1 1 j (j : Int) rfl hjm
              simp only [Nat.zero_add] at p0 p1
              clear hv
              have HNx := Lib.hid (next_more HC.out (by have := HA.out.2.2.2.2.1; simp only at this; omega))
              obtain ⟨v, hve⟩ : ∃ v, v = yl + (j : Int) + 1 := ⟨_, rfl⟩
              rw [← hve] at p1 HNx
              have HVe := Lib.hid hve
              clear hve
              go_wp2_with fail
              refine HNx.out.mono ?_
              rintro e w8 ⟨rfl, hc, hg8⟩
              replace HA := Lib.hid (HA.out.gb hg8 (Ne.symm hne.out))
              replace HR := Lib.hid (HR.out.gb hg8 (fun b' o' e => by cases e; simpa using HBB.out))
              replace HB := Lib.hid (below_gb HB.out hg8 HB.out.size HG2.out)
              replace HC := Lib.hid hc
              clear hc hg8 p0 p1 hix HNx
              go_wp2_with fail
              go_roundw
              case rel => exact ⟨j + 1, by omega, by go_num, (by rw [show yl + ((j + 1 : Nat) : Int) = v by have := HVe.out; omega]; exact HC), HA, HR, HB⟩
              case measure => simp [intOf]; omega
            · obtain rfl : 1 = j := by omega
              obtain ⟨ym, hym⟩ : ∃ ym, ym = yl + ((1 : Nat) : Int) := ⟨_, rfl⟩
              rw [← hym] at HA HC
              have HYm := Lib.hid hym
              have e0 : (ym != ym) = false := by simp
              have e1 : (1 != 1) = false := by simp
              clear hym
              go_wp2_with fail
              refine (last_any _ _ _ HA.out.sa).mono ?_
              rintro e w21 ⟨rfl, hl⟩
              replace HA := Lib.hid (HA.out.keep hl.bel)
              replace HC := Lib.hid (HC.out.keep hl.bel)
              replace HR := Lib.hid (HR.out.keep hl.bel)
              replace HB := bel_tr HB hl.bel
              clear hl
              go_wp2_with fail
              refine (last_any _ _ _ HC.out.sa).mono ?_
              rintro e w22 ⟨rfl, hl⟩
              replace HA := Lib.hid (HA.out.keep hl.bel)
              replace HR := Lib.hid (HR.out.keep hl.bel)
              replace HB := bel_tr HB hl.bel
              clear hl HC e0 e1
              go_wp2_with fail
              go_loopw [11, 110] (fun pb i wz => ∃ (j : Nat) (bj : Int), j ≤ 1 ∧ i = .int .i64 (j : Int) ∧ pb = .int .i64 bj ∧ Hid (bj ≤ yl + (j : Int)) ∧ Hid (Am wz g ⟨r, ym, ye⟩) ∧ Hid (RowD wz (some ⟨b, 0, none⟩) (dotsA r yl 1)) ∧ Hid (Below w1.heap.size w1 wz)) (fun _ i => fun _ => 1 - (intOf i).toNat)
              case atStart => exact ⟨0, bf, Nat.zero_le _, rfl, rfl, (by have := HBF.out; show _ ≤ _; omega), HA, HR, HB⟩
              case round =>
                clear HA HR HB
                obtain ⟨j, bj, hj, rfl, rfl, HBj, HA, HR, HB⟩ := hrel
                by_cases hjm : j < 1
                · have hj1 : (j : Int) < 1 := by omega
                  obtain ⟨b1, o1, e1, p0, p1⟩ := HR.out.get (Below.refl _ _) j (by rw [dotsA_len]; exact hjm)
                  simp only [Option.some.injEq, Addr.mk.injEq] at e1
                  obtain ⟨rfl, rfl, -⟩ := e1
                  have hv : (dotsA r yl 1)[j]'(by rw [dotsA_len]; exact hjm) = (r, yl + 1 + (j : Int)) := by rw [dotsA_at]
                  rw [hv] at p0 p1
                  have hix := ix_dot0 b 1 1 j (j : Int) rfl hjm
                  simp only [Nat.zero_add] at p0 p1
                  clear hv
                  obtain ⟨v, hve⟩ : ∃ v, v = yl + 1 + (j : Int) := ⟨_, rfl⟩
                  rw [← hve] at p1
                  have hym2 := HYm.out
                  have hle : ym ≤ ye := by have := HA.out.2.2.2.2.1; simpa using this
                  have hv1 : ¬ v ≤ bj := by have := HBj.out; omega
                  have hv2 : ¬ ye < v := by omega
                  have HVe := Lib.hid hve
                  have er : (r != r) = false := by simp
                  clear hve hym2 hle
                  go_upto_region 40 with fail
                  obtain ⟨c0, c1⟩ := cells_new wr (r, v) 39
                  have hb4 := bel_box wr (.cells #[.int .i64 r, .int .i64 v] 39)
                  replace HA := Lib.hid (HA.out.keep hb4)
                  replace HR := Lib.hid (HR.out.keep hb4)
                  replace HB := bel_tr HB hb4
                  simp only at c0 c1
                  clear hb4 p0 p1 hix
                  generalize wr.alloc (.cells #[.int .i64 r, .int .i64 v] 39) = wx2 at *
                  generalize wr.heap.size = z2 at *
                  have HEn := Lib.hid (fun n os => Calls.grown_of (end_any _ _ _ ((HA.out.sa).keep (lays_of wx2 n os).bel)))
                  simp only at HEn
                  replace c0 := cellG c0
                  replace c1 := cellG c1
                  have mixed := mixed
                  refine wp_region_quiet_grown mixed (by kernel_rfl) ?_
                  repeat (first | go_big_quiet_skip | (go_big_quiet_want; go_big_quiet_op; first | go_big_quiet_on | go_big_quiet_call ((go_at_call 26; exact HEn.out _ _))))
                  refine wpQuiet_nil ?_
                  intro _ hw'
                  obtain ⟨⟨nq, osq⟩, hw''⟩ := hw'
                  subst hw''
                  have hl := (lays_of wx2 nq osq).bel
                  replace c1 := c1 nq osq
                  replace HA := Lib.hid (HA.out.keep hl)
                  replace HR := Lib.hid (HR.out.keep hl)
                  replace HB := bel_tr HB hl
                  clear hl c0 HEn
                  generalize grow (wx2.drewN nq) osq = wx3 at *
                  go_wp2_with fail
                  go_roundw
                  case rel => exact ⟨j + 1, v, by omega, by go_num, rfl, (by have := HVe.out; show _ ≤ _; omega), HA, HR, HB⟩
                  case measure => simp [intOf]; omega
                · obtain rfl : 1 = j := by omega
                  have HBF := Lib.hid (show bj ≤ ym by have := HBj.out; have := HYm.out; omega)
                  clear HR
                  have hva := HA.out.2
                  unfold Va at hva
                  obtain ⟨a1, a2, a3, a4, a5⟩ := hva
                  simp only at a1 a2 a3 a4 a5
                  have hbf : ¬ ym < bj := by have := HBF.out; omega
                  have hsum : (ym + (ye - (ym)) != ye) = false := by rw [bne_eq_false_iff_eq]; omega
                  clear a1 a2
                  go_wp2_with fail
                  refine (last_any _ _ _ HA.out.sa).mono ?_
                  rintro e w31 ⟨rfl, hl⟩
                  replace HA := Lib.hid (HA.out.keep hl.bel)
                  replace HB := bel_tr HB hl.bel
                  clear hl
                  go_wp2_with fail
                  refine (left_any _ _ _ HA.out.sa).mono ?_
                  rintro e w32 ⟨rfl, hl⟩
                  replace HA := Lib.hid (HA.out.keep hl.bel)
                  replace HB := bel_tr HB hl.bel
                  clear hl
                  go_wp2_with fail
                  refine (end_any _ _ _ HA.out.sa).mono ?_
                  rintro e w33 ⟨rfl, hl⟩
                  replace HA := Lib.hid (HA.out.keep hl.bel)
                  replace HB := bel_tr HB hl.bel
                  clear hl
                  go_wp2_with fail
                  refine (last_any _ _ _ HA.out.sa).mono ?_
                  rintro e w34 ⟨rfl, hl⟩
                  replace HA := Lib.hid (HA.out.keep hl.bel)
                  replace HB := bel_tr HB hl.bel
                  clear hl
                  go_wp2_with fail
                  go_roundw
                  case rel => exact ⟨k + 1, ym, ye, bj, by omega, by go_num, rfl, HA, HBF, HB⟩
                  case measure => simp [intOf]; omega
      by_cases h1 : q1 = 1
      · subst h1
        by_cases hq0 : q2 < 0 ∨ 65536 < q2
        · go_wp2_with fail
          refine (take_arg g _ _ _ HA.out hq0).mono ?_
          rintro e w6 ⟨rfl, hb⟩
          replace HA := Lib.hid (HA.out.keep hb)
          replace HB := bel_tr HB hb
          clear hb c0 c1
          go_wp2_with fail
          go_roundw
          case rel => exact ⟨k + 1, yl, ye, bf, by omega, by go_num, rfl, HA, HBF, HB⟩
          case measure => simp [intOf]; omega
        · by_cases hq : ye - yl < q2
          · go_wp2_with fail
            refine (take_end g _ _ _ HA.out (by omega) (by omega) hq).mono ?_
            rintro e w6 ⟨rfl, hb⟩
            replace HA := Lib.hid (HA.out.keep hb)
            replace HB := bel_tr HB hb
            clear hb c0 c1
            go_wp2_with fail
            go_roundw
            case rel => exact ⟨k + 1, yl, ye, bf, by omega, by go_num, rfl, HA, HBF, HB⟩
            case measure => simp [intOf]; omega
          · obtain ⟨m, rfl⟩ := Int.eq_ofNat_of_zero_le (show 0 ≤ q2 by omega)
            have HTk := Lib.hid (take_no g ⟨r, yl, ye⟩ m w5 HA.out (by omega) (by simp only; omega))
            have hm6 : (m : Int) ≤ 65536 := by omega
            clear hq0 hq
            go_wp2_with fail
            refine HTk.out.mono ?_
            clear HTk
            rintro e w6 ⟨b, rfl, hr, hbb, ha, hg6⟩
            have HR := Lib.hid hr
            replace HA := Lib.hid ha
            replace HC := Lib.hid (HC.out.gb hg6 hne.out)
            replace HB := Lib.hid (below_gb HB.out hg6 HB.out.size HG.out)
            have HBB : Hid (b ≠ g2) := by have := HC5.out; show _ ≠ _; omega
            clear hr hbb ha hg6 c0 c1
            go_wp2_with fail
            obtain ⟨wo, hwo⟩ : ∃ wo : World, wo = wr := ⟨_, rfl⟩
            go_loopw [74] (fun i wy => ∃ j : Nat, j ≤ m ∧ i = .int .i64 (j : Int) ∧ Hid (Am wy g2 ⟨r, yl + (j : Int), ye⟩) ∧ Hid (Am wy g ⟨r, yl + ((m : Nat) : Int), ye⟩) ∧ Hid (RowD wy (some ⟨b, 0, none⟩) (dotsA r yl m)) ∧ Hid (Below w1.heap.size w1 wy)) (fun i _ => m - (intOf i).toNat)
            case atStart => exact ⟨0, Nat.zero_le _, rfl, (by rw [show yl + ((0 : Nat) : Int) = yl by omega]; exact HC), HA, HR, HB⟩
            case round =>
              clear HA HB HC HR
              obtain ⟨j, hj, rfl, HC, HA, HR, HB⟩ := hrel
              by_cases hjm : j < m
              · have hj1 : (j : Int) < (m : Int) := by omega
                obtain ⟨b1, o1, e1, p0, p1⟩ := HR.out.get (Below.refl _ _) j (by rw [dotsA_len]; exact hjm)
                simp only [Option.some.injEq, Addr.mk.injEq] at e1
                obtain ⟨rfl, rfl, -⟩ := e1
                have hv : (dotsA r yl m)[j]'(by rw [dotsA_len]; exact hjm) = (r, yl + (j : Int) + 1) := by rw [dotsA_at]; congr 1; omega
                rw [hv] at p0 p1
                have hix := ix_dot0 b m m j (j : Int) rfl hjm
                simp only [Nat.zero_add] at p0 p1
                clear hv
                have HNx := Lib.hid (next_more HC.out (by have := HA.out.2.2.2.2.1; simp only at this; omega))
                obtain ⟨v, hve⟩ : ∃ v, v = yl + (j : Int) + 1 := ⟨_, rfl⟩
                rw [← hve] at p1 HNx
                have HVe := Lib.hid hve
                clear hve
                go_wp2_with fail
                refine HNx.out.mono ?_
                rintro e w8 ⟨rfl, hc, hg8⟩
                replace HA := Lib.hid (HA.out.gb hg8 (Ne.symm hne.out))
                replace HR := Lib.hid (HR.out.gb hg8 (fun b' o' e => by cases e; simpa using HBB.out))
                replace HB := Lib.hid (below_gb HB.out hg8 HB.out.size HG2.out)
                replace HC := Lib.hid hc
                clear hc hg8 p0 p1 hix HNx
                go_wp2_with fail
                go_roundw
                case rel => exact ⟨j + 1, by omega, by go_num, (by rw [show yl + ((j + 1 : Nat) : Int) = v by have := HVe.out; omega]; exact HC), HA, HR, HB⟩
                case measure => simp [intOf]; omega
              · obtain rfl : m = j := by omega
                obtain ⟨ym, hym⟩ : ∃ ym, ym = yl + ((m : Nat) : Int) := ⟨_, rfl⟩
                rw [← hym] at HA HC
                have HYm := Lib.hid hym
                have e0 : (ym != ym) = false := by simp
                have e1 : ((m : Int) != (m : Int)) = false := by simp
                clear hym
                go_wp2_with fail
                refine (last_any _ _ _ HA.out.sa).mono ?_
                rintro e w21 ⟨rfl, hl⟩
                replace HA := Lib.hid (HA.out.keep hl.bel)
                replace HC := Lib.hid (HC.out.keep hl.bel)
                replace HR := Lib.hid (HR.out.keep hl.bel)
                replace HB := bel_tr HB hl.bel
                clear hl
                go_wp2_with fail
                refine (last_any _ _ _ HC.out.sa).mono ?_
                rintro e w22 ⟨rfl, hl⟩
                replace HA := Lib.hid (HA.out.keep hl.bel)
                replace HR := Lib.hid (HR.out.keep hl.bel)
                replace HB := bel_tr HB hl.bel
                clear hl HC e0 e1
                go_wp2_with fail
                go_loopw [11, 110] (fun pb i wz => ∃ (j : Nat) (bj : Int), j ≤ m ∧ i = .int .i64 (j : Int) ∧ pb = .int .i64 bj ∧ Hid (bj ≤ yl + (j : Int)) ∧ Hid (Am wz g ⟨r, ym, ye⟩) ∧ Hid (RowD wz (some ⟨b, 0, none⟩) (dotsA r yl m)) ∧ Hid (Below w1.heap.size w1 wz)) (fun _ i => fun _ => m - (intOf i).toNat)
                case atStart => exact ⟨0, bf, Nat.zero_le _, rfl, rfl, (by have := HBF.out; show _ ≤ _; omega), HA, HR, HB⟩
                case round =>
                  clear HA HR HB
                  obtain ⟨j, bj, hj, rfl, rfl, HBj, HA, HR, HB⟩ := hrel
                  by_cases hjm : j < m
                  · have hj1 : (j : Int) < (m : Int) := by omega
                    obtain ⟨b1, o1, e1, p0, p1⟩ := HR.out.get (Below.refl _ _) j (by rw [dotsA_len]; exact hjm)
                    simp only [Option.some.injEq, Addr.mk.injEq] at e1
                    obtain ⟨rfl, rfl, -⟩ := e1
                    have hv : (dotsA r yl m)[j]'(by rw [dotsA_len]; exact hjm) = (r, yl + 1 + (j : Int)) := by rw [dotsA_at]
                    rw [hv] at p0 p1
                    have hix := ix_dot0 b m m j (j : Int) rfl hjm
                    simp only [Nat.zero_add] at p0 p1
                    clear hv
                    obtain ⟨v, hve⟩ : ∃ v, v = yl + 1 + (j : Int) := ⟨_, rfl⟩
                    rw [← hve] at p1
                    have hym2 := HYm.out
                    have hle : ym ≤ ye := by have := HA.out.2.2.2.2.1; simpa using this
                    have hv1 : ¬ v ≤ bj := by have := HBj.out; omega
                    have hv2 : ¬ ye < v := by omega
                    have HVe := Lib.hid hve
                    have er : (r != r) = false := by simp
                    clear hve hym2 hle
                    go_upto_region 40 with fail
                    obtain ⟨c0, c1⟩ := cells_new wr (r, v) 39
                    have hb4 := bel_box wr (.cells #[.int .i64 r, .int .i64 v] 39)
                    replace HA := Lib.hid (HA.out.keep hb4)
                    replace HR := Lib.hid (HR.out.keep hb4)
                    replace HB := bel_tr HB hb4
                    simp only at c0 c1
                    clear hb4 p0 p1 hix
                    generalize wr.alloc (.cells #[.int .i64 r, .int .i64 v] 39) = wx2 at *
                    generalize wr.heap.size = z2 at *
                    have HEn := Lib.hid (fun n os => Calls.grown_of (end_any _ _ _ ((HA.out.sa).keep (lays_of wx2 n os).bel)))
                    simp only at HEn
                    replace c0 := cellG c0
                    replace c1 := cellG c1
                    have mixed := mixed
                    refine wp_region_quiet_grown mixed (by kernel_rfl) ?_
                    repeat (first | go_big_quiet_skip | (go_big_quiet_want; go_big_quiet_op; first | go_big_quiet_on | go_big_quiet_call ((go_at_call 26; exact HEn.out _ _))))
                    refine wpQuiet_nil ?_
                    intro _ hw'
                    obtain ⟨⟨nq, osq⟩, hw''⟩ := hw'
                    subst hw''
                    have hl := (lays_of wx2 nq osq).bel
                    replace c1 := c1 nq osq
                    replace HA := Lib.hid (HA.out.keep hl)
                    replace HR := Lib.hid (HR.out.keep hl)
                    replace HB := bel_tr HB hl
                    clear hl c0 HEn
                    generalize grow (wx2.drewN nq) osq = wx3 at *
                    go_wp2_with fail
                    go_roundw
                    case rel => exact ⟨j + 1, v, by omega, by go_num, rfl, (by have := HVe.out; show _ ≤ _; omega), HA, HR, HB⟩
                    case measure => simp [intOf]; omega
                  · obtain rfl : m = j := by omega
                    have HBF := Lib.hid (show bj ≤ ym by have := HBj.out; have := HYm.out; omega)
                    clear HR
                    have hva := HA.out.2
                    unfold Va at hva
                    obtain ⟨a1, a2, a3, a4, a5⟩ := hva
                    simp only at a1 a2 a3 a4 a5
                    have hbf : ¬ ym < bj := by have := HBF.out; omega
                    have hsum : (ym + (ye - (ym)) != ye) = false := by rw [bne_eq_false_iff_eq]; omega
                    clear a1 a2
                    go_wp2_with fail
                    refine (last_any _ _ _ HA.out.sa).mono ?_
                    rintro e w31 ⟨rfl, hl⟩
                    replace HA := Lib.hid (HA.out.keep hl.bel)
                    replace HB := bel_tr HB hl.bel
                    clear hl
                    go_wp2_with fail
                    refine (left_any _ _ _ HA.out.sa).mono ?_
                    rintro e w32 ⟨rfl, hl⟩
                    replace HA := Lib.hid (HA.out.keep hl.bel)
                    replace HB := bel_tr HB hl.bel
                    clear hl
                    go_wp2_with fail
                    refine (end_any _ _ _ HA.out.sa).mono ?_
                    rintro e w33 ⟨rfl, hl⟩
                    replace HA := Lib.hid (HA.out.keep hl.bel)
                    replace HB := bel_tr HB hl.bel
                    clear hl
                    go_wp2_with fail
                    refine (last_any _ _ _ HA.out.sa).mono ?_
                    rintro e w34 ⟨rfl, hl⟩
                    replace HA := Lib.hid (HA.out.keep hl.bel)
                    replace HB := bel_tr HB hl.bel
                    clear hl
                    go_wp2_with fail
                    go_roundw
                    case rel => exact ⟨k + 1, ym, ye, bj, by omega, by go_num, rfl, HA, HBF, HB⟩
                    case measure => simp [intOf]; omega
      have hd0 : (q1 == 0) = false := by rw [beq_eq_false_iff_ne]; exact h0
      have hd1 : (q1 == 1) = false := by rw [beq_eq_false_iff_ne]; exact h1
      by_cases h2 : q1 = 2
      · subst h2
        go_wp2_with fail
        refine (ext_all g _ _ _ HA.out).mono ?_
        rintro e w6 ⟨rfl, ha, hg6⟩
        obtain ⟨k1, k2⟩ := ext_keeps ⟨r, yl, ye⟩ q2
        replace HB := Lib.hid (below_gb HB.out hg6 HB.out.size HG.out)
        generalize (extA ⟨r, yl, ye⟩ q2).1 = y5 at *
        obtain ⟨r5, l5, e5⟩ := y5
        simp only at k1 k2
        subst k1 k2
        replace HA := Lib.hid ha
        clear ha hg6 c0 c1 HC
        go_wp2_with fail
        refine wp_loop_rounds 1 ?_
        rw [rounds_succ]
        have hva := HA.out.2
        unfold Va at hva
        obtain ⟨a1, a2, a3, a4, a5⟩ := hva
        simp only at a1 a2 a3 a4 a5
        have hbf : ¬ l5 < bf := by have := HBF.out; omega
        have hsum : (l5 + (e5 - (l5)) != e5) = false := by rw [bne_eq_false_iff_eq]; omega
        clear a1 a2
        go_wp2_with fail
        refine (last_any _ _ _ HA.out.sa).mono ?_
        rintro e w31 ⟨rfl, hl⟩
        replace HA := Lib.hid (HA.out.keep hl.bel)
        replace HB := bel_tr HB hl.bel
        clear hl
        go_wp2_with fail
        refine (left_any _ _ _ HA.out.sa).mono ?_
        rintro e w32 ⟨rfl, hl⟩
        replace HA := Lib.hid (HA.out.keep hl.bel)
        replace HB := bel_tr HB hl.bel
        clear hl
        go_wp2_with fail
        refine (end_any _ _ _ HA.out.sa).mono ?_
        rintro e w33 ⟨rfl, hl⟩
        replace HA := Lib.hid (HA.out.keep hl.bel)
        replace HB := bel_tr HB hl.bel
        clear hl
        go_wp2_with fail
        refine (last_any _ _ _ HA.out.sa).mono ?_
        rintro e w34 ⟨rfl, hl⟩
        replace HA := Lib.hid (HA.out.keep hl.bel)
        replace HB := bel_tr HB hl.bel
        clear hl
        go_wp2_with fail
        go_roundw
        case rel => exact ⟨k + 1, l5, e5, bf, by omega, by go_num, rfl, HA, HBF, HB⟩
        case measure => simp [intOf]; omega
      have hd2 : (q1 == 2) = false := by rw [beq_eq_false_iff_ne]; exact h2
      by_cases h3 : q1 = 3
      · subst h3
        go_wp2_with fail
        refine (pass_all g _ _ _ HA.out).mono ?_
        rintro e w6 ⟨rfl, ha, hg6⟩
        obtain ⟨k1, k2⟩ := pass_keeps ⟨r, yl, ye⟩ q2
        replace HB := Lib.hid (below_gb HB.out hg6 HB.out.size HG.out)
        generalize (passA ⟨r, yl, ye⟩ q2).1 = y5 at *
        obtain ⟨r5, l5, e5⟩ := y5
        simp only at k1 k2
        subst k1
        replace HA := Lib.hid ha
        replace HBF : Hid (bf ≤ l5) := by have := HBF.out; show _ ≤ _; omega
        clear ha hg6 c0 c1 HC k2
        go_wp2_with fail
        refine wp_loop_rounds 1 ?_
        rw [rounds_succ]
        have hva := HA.out.2
        unfold Va at hva
        obtain ⟨a1, a2, a3, a4, a5⟩ := hva
        simp only at a1 a2 a3 a4 a5
        have hbf : ¬ l5 < bf := by have := HBF.out; omega
        have hsum : (l5 + (e5 - (l5)) != e5) = false := by rw [bne_eq_false_iff_eq]; omega
        clear a1 a2
        go_wp2_with fail
        refine (last_any _ _ _ HA.out.sa).mono ?_
        rintro e w31 ⟨rfl, hl⟩
        replace HA := Lib.hid (HA.out.keep hl.bel)
        replace HB := bel_tr HB hl.bel
        clear hl
        go_wp2_with fail
        refine (left_any _ _ _ HA.out.sa).mono ?_
        rintro e w32 ⟨rfl, hl⟩
        replace HA := Lib.hid (HA.out.keep hl.bel)
        replace HB := bel_tr HB hl.bel
        clear hl
        go_wp2_with fail
        refine (end_any _ _ _ HA.out.sa).mono ?_
        rintro e w33 ⟨rfl, hl⟩
        replace HA := Lib.hid (HA.out.keep hl.bel)
        replace HB := bel_tr HB hl.bel
        clear hl
        go_wp2_with fail
        refine (last_any _ _ _ HA.out.sa).mono ?_
        rintro e w34 ⟨rfl, hl⟩
        replace HA := Lib.hid (HA.out.keep hl.bel)
        replace HB := bel_tr HB hl.bel
        clear hl
        go_wp2_with fail
        go_roundw
        case rel => exact ⟨k + 1, l5, e5, bf, by omega, by go_num, rfl, HA, HBF, HB⟩
        case measure => simp [intOf]; omega
      have hd3 : (q1 == 3) = false := by rw [beq_eq_false_iff_ne]; exact h3
      go_wp2_with fail
      clear c0 c1 HC h0 h1 h2 h3
      refine wp_loop_rounds 1 ?_
      rw [rounds_succ]
      have hva := HA.out.2
      unfold Va at hva
      obtain ⟨a1, a2, a3, a4, a5⟩ := hva
      simp only at a1 a2 a3 a4 a5
      have hbf : ¬ yl < bf := by have := HBF.out; omega
      have hsum : (yl + (ye - (yl)) != ye) = false := by rw [bne_eq_false_iff_eq]; omega
      clear a1 a2
      go_wp2_with fail
      refine (last_any _ _ _ HA.out.sa).mono ?_
      rintro e w31 ⟨rfl, hl⟩
      replace HA := Lib.hid (HA.out.keep hl.bel)
      replace HB := bel_tr HB hl.bel
      clear hl
      go_wp2_with fail
      refine (left_any _ _ _ HA.out.sa).mono ?_
      rintro e w32 ⟨rfl, hl⟩
      replace HA := Lib.hid (HA.out.keep hl.bel)
      replace HB := bel_tr HB hl.bel
      clear hl
      go_wp2_with fail
      refine (end_any _ _ _ HA.out.sa).mono ?_
      rintro e w33 ⟨rfl, hl⟩
      replace HA := Lib.hid (HA.out.keep hl.bel)
      replace HB := bel_tr HB hl.bel
      clear hl
      go_wp2_with fail
      refine (last_any _ _ _ HA.out.sa).mono ?_
      rintro e w34 ⟨rfl, hl⟩
      replace HA := Lib.hid (HA.out.keep hl.bel)
      replace HB := bel_tr HB hl.bel
      clear hl
      go_wp2_with fail
      go_roundw
      case rel => exact ⟨k + 1, yl, ye, bf, by omega, by go_num, rfl, HA, HBF, HB⟩
      case measure => simp [intOf]; omega
    · obtain rfl : k = ls.length := by omega
      go_wp2_with fail
      refine (HK.out _).mono ?_
      rintro e w4 ⟨rfl, hb⟩
      replace HB := bel_tr HB hb
      clear hb
      go_wp2_with fail
      go_ret
      exact ⟨rfl, HB.out⟩
end Go.Proofs.Ytkbbbjcigjlopaa.H
