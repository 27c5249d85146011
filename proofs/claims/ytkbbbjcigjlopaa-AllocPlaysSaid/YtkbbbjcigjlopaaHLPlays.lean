/-
  AllocPlays: every input gives true.
-/
import Derived.Test.YtkbbbjcigjlopaaHDoesN
namespace Go.Proofs.Ytkbbbjcigjlopaa.H
set_option linter.unusedVariables false
open Go.RowKit V Go.Sort D

set_option maxRecDepth 100000 in
set_option maxHeartbeats 8000000 in
theorem plays_law (r l e : Int) (ls : List Dt) (a : Option Addr) (c : Nat) (w : World) (hx : RowD w a ls) (hlx : ls.length ≤ 9223372036854775807) :
    Calls Try.prog 4 #[.int .i64 r, .int .i64 l, .int .i64 e, .slice a ls.length c] w fun x w' => x = .returned (.bool true) ∧ Below w.heap.size w w' := by
  have HK := Lib.hid (fun w => known_any w)
  have HF := Lib.hid (few_any ls a c w hx hlx)
  have HX := Lib.hid hx
  clear hx
  rcases hf : fewR ls with _ | _
  · rw [hf] at HF
    clear hf hlx
    go_enter Try.func4, Try.ntmps4
    go_wp2_with fail
    refine HF.out.mono ?_
    rintro e w1 ⟨rfl, rfl⟩
    go_wp2_with fail
    refine (HK.out _).mono ?_
    rintro e w2 ⟨rfl, hb⟩
    have HB := Lib.hid hb
    clear hb
    go_wp2_with fail
    go_ret
    exact ⟨rfl, HB.out⟩
  rw [hf] at HF
  have h60 : (ls.length : Int) ≤ 60 := by
    unfold fewR at hf
    rw [Bool.and_eq_true] at hf
    have := hf.1
    simp at this
    omega
  clear hf hlx
  rcases hn : newOk r l e with _ | _
  · have HR := Lib.hid (fun w => newR_no r l e w hn)
    have HN := Lib.hid (fun w => none_is r l e w hn)
    clear hn
    go_enter Try.func4, Try.ntmps4
    go_wp2_with fail
    refine HF.out.mono ?_
    rintro e w1 ⟨rfl, rfl⟩
    go_wp2_with fail
    refine (HR.out _).mono ?_
    rintro e w2 ⟨rfl, hb⟩
    have HB := Lib.hid hb
    clear hb
    go_wp2_with fail
    refine (HN.out _).mono ?_
    rintro e w3 ⟨rfl, hb⟩
    replace HB : Hid (Below w1.heap.size w1 w3) := (HB.out.alloc HB.out.size _).trans (hb.mono (by have := HB.out.size; simp; omega))
    clear hb
    go_wp2_with fail
    refine (HK.out _).mono ?_
    rintro e w4 ⟨rfl, hb⟩
    replace HB := bel_tr HB hb
    clear hb
    go_wp2_with fail
    go_ret
    exact ⟨rfl, HB.out⟩
  have HR := Lib.hid (fun w => newR_ok r l e w hn)
  have HN := Lib.hid (fun w => new_ok r l e w hn)
  clear hn
  go_enter Try.func4, Try.ntmps4
  go_wp2_with fail
  refine HF.out.mono ?_
  rintro x w1 ⟨rfl, rfl⟩
  go_wp2_with fail
  refine (HR.out _).mono ?_
  rintro x w2 ⟨rfl, hb⟩
  have HB := Lib.hid hb
  clear hb HF
  go_wp2_with fail
  refine (HN.out _).mono ?_
  rintro x w3 ⟨g, rfl, hg, ha, hb⟩
  have HY := Lib.hid ((a3_new w2 ⟨r, l, e⟩ 23).keep hb)
  have hs := HB.out.size
  have HA := Lib.hid ha
  have HG : Hid (w2.heap.size < g) := by simp at hg; show _ < _; omega
  have HL : Hid (w1.heap.size ≤ w2.heap.size) := hs
  replace HB : Hid (Below w1.heap.size w1 w3) := (HB.out.alloc HB.out.size _).trans (hb.mono (by simp; omega))
  clear hb ha hg hs HR HN
  generalize w2.heap.size = b at *
  go_wp2_with fail
  go_loopw [11, 53] (fun pa i wr => ∃ (k gg : Nat) (y : Al), k ≤ ls.length ∧ i = .int .i64 (k : Int) ∧ pa = .pointer (some ⟨gg, 0, none⟩) ∧ Hid (Am wr gg y) ∧ Hid (A3 wr b y) ∧ Hid (b < gg) ∧ Hid (Below w1.heap.size w1 wr)) (fun _ i _ => ls.length - (intOf i).toNat)
  case atStart => exact ⟨0, g, ⟨r, l, e⟩, Nat.zero_le _, rfl, rfl, HA, HY, HG, HB⟩
  case round =>
    clear HA HB HY HG
    obtain ⟨k, gg, y, hk, rfl, rfl, HA, HY, HG, HB⟩ := hrel
    by_cases hlt : k < ls.length
    · have hi1 : (k : Int) < (ls.length : Int) := by omega
      obtain ⟨b1, o1, rfl, p0, p1⟩ := HX.out.get HB.out k hlt
      obtain ⟨q, hq⟩ : ∃ q, q = ls[k] := ⟨_, rfl⟩
      rw [← hq] at p0 p1
      have hix := ix_act b1 o1 ls.length c k (k : Int) rfl hlt
      clear hq
      obtain ⟨q1, q2⟩ := q
      simp only at p0 p1
      go_upto_region 12 with fail
      obtain ⟨c0, c1⟩ := cells_new wr (q1, q2) 36
      have hb4 := bel_box wr (.cells #[.int .i64 q1, .int .i64 q2] 36)
      replace HY := Lib.hid (HY.out.keep hb4)
      replace HA := Lib.hid (HA.out.keep hb4)
      replace HB := bel_tr HB hb4
      simp only at c0 c1
      clear hb4 p0 p1 hix
      generalize wr.alloc (.cells #[.int .i64 q1, .int .i64 q2] 36) = wx at *
      generalize wr.heap.size = z at *
      by_cases h0 : 0 ≤ q1
      · by_cases h5 : q1 ≤ 5
        · skip
          have y0 := HY.out.c0
          have y1 := HY.out.c1
          have y2 := HY.out.c2
          go_wp2_with fail
          refine (does_any gg y (q1, q2) _ HA.out h0 h5).mono ?_
          clear c0 c1 y0 y1 y2
          rintro e w5 ⟨rfl, ha, hg5⟩
          replace HY := Lib.hid (HY.out.gb hg5 (by have := HG.out; omega))
          replace HB := Lib.hid (below_gb HB.out hg5 HB.out.size (by have := HG.out; have := HL.out; omega))
          replace HA := Lib.hid ha
          clear ha hg5
          have HG5 : Hid (b < w5.heap.size) := HY.out.lt
          generalize stepA y (q1, q2) = y5 at *
          have hb5 := bel_box w5 (abox y5 23)
          replace HY := Lib.hid (HY.out.keep hb5)
          replace HA := Lib.hid (HA.out.keep hb5)
          replace HB := bel_tr HB hb5
          obtain ⟨v0, v1, v2⟩ : (w5.alloc (abox y5 23)).cell? ⟨w5.heap.size, 0, none⟩ = some (.int .i64 y5.r) ∧ (w5.alloc (abox y5 23)).cell? ⟨w5.heap.size, 1, none⟩ = some (.int .i64 y5.l) ∧ (w5.alloc (abox y5 23)).cell? ⟨w5.heap.size, 2, none⟩ = some (.int .i64 y5.e) := ⟨(a3_new w5 y5 _).c0, (a3_new w5 y5 _).c1, (a3_new w5 y5 _).c2⟩
          clear hb5
          have y0 := HY.out.c0
          have y1 := HY.out.c1
          have y2 := HY.out.c2
          have f0 := HY.out.free 0
          have f1 := HY.out.free 1
          have f2 := HY.out.free 2
          go_wp2_with fail
          replace HA := Lib.hid (HA.out.put3 (b := b) (by have := HG.out; omega) (.int .i64 y5.r) (.int .i64 y5.l) (.int .i64 y5.e))
          replace HY := Lib.hid (HY.out.put y5)
          replace HB := Lib.hid (((HB.out.setCell (p := ⟨b, 0, none⟩) HL.out (.int .i64 y5.r)).setCell (p := ⟨b, 1, none⟩) HL.out (.int .i64 y5.l)).setCell (p := ⟨b, 2, none⟩) HL.out (.int .i64 y5.e))
          clear v0 v1 v2 f0 f1 f2
          refine (looks_am _ _ _ HA.out).mono ?_
          rintro e w8 ⟨rfl, hb⟩
          have HY5 := Lib.hid (HY.out.keep hb)
          have HA5 := Lib.hid (HA.out.keep hb)
          have HB5 := bel_tr HB hb
          clear hb HA HB HY y0 y1 y2
          go_wp2_with fail
          go_roundw
          case rel => exact ⟨k + 1, gg, y5, by omega, by go_num, rfl, HA5, HY5, HG, HB5⟩
          case measure => simp [intOf]; omega
        · skip
          go_wp2_with fail
          refine (copy_no gg y _ HA.out).mono ?_
          rintro e w5 ⟨g2, rfl, hg2, ha, hb⟩
          have HC := Lib.hid ha
          have HG2 : Hid (b < g2) := by have := HY.out.lt; show _ < _; omega
          have hne : Hid (g2 ≠ gg) := by have := HA.out.1.lt; show _ ≠ _; omega
          replace HA := Lib.hid (HA.out.keep hb)
          replace HY := Lib.hid (HY.out.keep hb)
          replace HB := bel_tr HB hb
          clear hb ha hg2 c0 c1
          go_wp2_with fail
          refine (next_all gg y _ HA.out).mono ?_
          rintro e w6 ⟨rfl, ha, hg6⟩
          replace HA := Lib.hid ha
          replace HC := Lib.hid (HC.out.gb hg6 hne.out)
          replace HY := Lib.hid (HY.out.gb hg6 (by have := HG.out; omega))
          replace HB := Lib.hid (below_gb HB.out hg6 HB.out.size (by have := HG.out; have := HL.out; omega))
          clear ha hg6
          go_wp2_with fail
          refine (ext_all gg _ _ _ HA.out).mono ?_
          rintro e w7 ⟨rfl, ha, hg7⟩
          replace HA := Lib.hid (HC.out.gb hg7 hne.out)
          replace HY := Lib.hid (HY.out.gb hg7 (by have := HG.out; omega))
          replace HB := Lib.hid (below_gb HB.out hg7 HB.out.size (by have := HG.out; have := HL.out; omega))
          clear ha hg7 HC hne
          have y0 := HY.out.c0
          have y1 := HY.out.c1
          have y2 := HY.out.c2
          go_wp2_with fail
          refine (looks_am _ _ _ HA.out).mono ?_
          rintro e w8 ⟨rfl, hb⟩
          have HY5 := Lib.hid (HY.out.keep hb)
          have HA5 := Lib.hid (HA.out.keep hb)
          have HB5 := bel_tr HB hb
          clear hb HA HB HY y0 y1 y2
          go_wp2_with fail
          go_roundw
          case rel => exact ⟨k + 1, g2, y, by omega, by go_num, rfl, HA5, HY5, HG2, HB5⟩
          case measure => simp [intOf]; omega
      · skip
        go_wp2_with fail
        refine (copy_no gg y _ HA.out).mono ?_
        rintro e w5 ⟨g2, rfl, hg2, ha, hb⟩
        have HC := Lib.hid ha
        have HG2 : Hid (b < g2) := by have := HY.out.lt; show _ < _; omega
        have hne : Hid (g2 ≠ gg) := by have := HA.out.1.lt; show _ ≠ _; omega
        replace HA := Lib.hid (HA.out.keep hb)
        replace HY := Lib.hid (HY.out.keep hb)
        replace HB := bel_tr HB hb
        clear hb ha hg2 c0 c1
        go_wp2_with fail
        refine (next_all gg y _ HA.out).mono ?_
        rintro e w6 ⟨rfl, ha, hg6⟩
        replace HA := Lib.hid ha
        replace HC := Lib.hid (HC.out.gb hg6 hne.out)
        replace HY := Lib.hid (HY.out.gb hg6 (by have := HG.out; omega))
        replace HB := Lib.hid (below_gb HB.out hg6 HB.out.size (by have := HG.out; have := HL.out; omega))
        clear ha hg6
        go_wp2_with fail
        refine (ext_all gg _ _ _ HA.out).mono ?_
        rintro e w7 ⟨rfl, ha, hg7⟩
        replace HA := Lib.hid (HC.out.gb hg7 hne.out)
        replace HY := Lib.hid (HY.out.gb hg7 (by have := HG.out; omega))
        replace HB := Lib.hid (below_gb HB.out hg7 HB.out.size (by have := HG.out; have := HL.out; omega))
        clear ha hg7 HC hne
        have y0 := HY.out.c0
        have y1 := HY.out.c1
        have y2 := HY.out.c2
        go_wp2_with fail
        refine (looks_am _ _ _ HA.out).mono ?_
        rintro e w8 ⟨rfl, hb⟩
        have HY5 := Lib.hid (HY.out.keep hb)
        have HA5 := Lib.hid (HA.out.keep hb)
        have HB5 := bel_tr HB hb
        clear hb HA HB HY y0 y1 y2
        go_wp2_with fail
        go_roundw
        case rel => exact ⟨k + 1, g2, y, by omega, by go_num, rfl, HA5, HY5, HG2, HB5⟩
        case measure => simp [intOf]; omega
    · obtain rfl : k = ls.length := by omega
      go_wp2_with fail
      refine (HK.out _).mono ?_
      rintro e w4 ⟨rfl, hb⟩
      replace HB := bel_tr HB hb
      clear hb
      go_wp2_with fail
      go_ret
      exact ⟨rfl, HB.out⟩
end Go.Proofs.Ytkbbbjcigjlopaa.H
