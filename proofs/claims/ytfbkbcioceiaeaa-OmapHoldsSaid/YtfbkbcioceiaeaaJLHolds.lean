/-
  OmapHolds.
-/
import Derived.Test.YtfbkbcioceiaeaaJLight
namespace Go.Proofs.Ytfbkbcioceiaeaa.J
set_option linter.unusedVariables false
open Go.RowKit V Go.Shelf

attribute [local irreducible] Sch.heldN Sch.stepV Sch.stepE
/-- A box of a pair, and the key before it in the row. -/
def Bq (w : World) (bp bo o : Nat) (p : Pr) (z : Int) : Prop := Bp w bp p ∧ w.cell? ⟨bo, o, none⟩ = some (.int .i64 z)
theorem Bq.keep {w w' : World} {bp bo o : Nat} {p : Pr} {z : Int} (h : Bq w bp bo o p z) (hb : Below w.heap.size w w') : Bq w' bp bo o p z := ⟨h.1.keep hb, keep_cell h.2 hb⟩

set_option maxRecDepth 100000 in
set_option maxHeartbeats 8000000 in
theorem holds_law (d : Bool) (l : List Ac) (a : Option Addr) (c : Nat) (t : Int) (w : World) (hx : RowA w a l) (hl : l.length ≤ 9223372036854775807) (ht0 : 0 ≤ t) (ht : t ≤ 255) :
    Calls Try.prog 7 #[.bool d, .slice a l.length c, .int .u8 t] w fun e w' => e = .returned (.bool true) ∧ Below w.heap.size w w' := by
  have HX := Lib.hid hx
  have HLi := Lib.hid (light_any l a c w hx hl)
  clear hx hl
  go_enter Try.func7, Try.ntmps7
  go_wp2_with fail
  refine HLi.out.mono ?_
  rintro e w0 ⟨bb, rfl, rfl, hbb⟩
  have HBB := Lib.hid hbb
  clear hbb HLi
  rcases bb with _ | _
  · have HK := Lib.hid (known_any w0)
    go_wp2_with fail
    refine HK.out.mono ?_
    rintro e w9 ⟨rfl, hb⟩
    have HB := Lib.hid hb
    clear hb HK
    go_wp2_with fail
    go_ret
    exact ⟨rfl, HB.out⟩
  · have HLn := Lib.hid (HBB.out rfl)
    have hl60 : (l.length : Int) ≤ 60 := by have := HLn.out.1; omega
    clear HBB
    have HM1 := Lib.hid (made_any d w0)
    go_wp2_with fail
    refine HM1.out.mono ?_
    rintro e w1 ⟨g, rfl, hg, hm, hb⟩
    have HM := Lib.hid hm
    have HB := Lib.hid hb
    have HG : Hid (w0.heap.size ≤ g ∧ g < w1.heap.size) := ⟨hg, hm.lt⟩
    clear hg hm hb HM1
    have HM2 := Lib.hid (made_any d w1)
    go_wp2_with fail
    refine HM2.out.mono ?_
    rintro e w2 ⟨n, rfl, hn, hm, hb⟩
    have HN := Lib.hid hm
    replace HM := Lib.hid (HM.out.keep hb)
    replace HB := Lib.hid (bel_tr HB.out hb)
    have HGN : Hid (w0.heap.size ≤ g ∧ g < n ∧ w0.heap.size ≤ n) := ⟨HG.out.1, by have := HG.out.2; omega, by have := HG.out; omega⟩
    clear hn hm hb HM2 HG
    go_wp2_with fail
    go_loopw [32] (fun j wr => ∃ (q : Nat) (L : List Pr), q ≤ l.length ∧ j = .int .i64 q ∧ Hid (Mp wr g d L) ∧ Hid (Mp wr n d []) ∧ Hid (Below w0.heap.size w0 wr) ∧ L.length ≤ q) (fun j _ => l.length - (intOf j).toNat)
    case atStart => exact ⟨0, [], by omega, rfl, HM, HN, HB, by simp⟩
    case round =>
      clear HM HN HB
      obtain ⟨q, L, hq, rfl, HM, HN, HB, hLq⟩ := hrel
      by_cases hlt : q < l.length
      · obtain ⟨b, o, rfl, c0, c1, c2⟩ := (HX.out.keepB HB.out (Nat.le_refl _)).get q hlt
        obtain ⟨x, hx⟩ : ∃ x, x = l[q] := ⟨_, rfl⟩
        rw [← hx] at c0 c1 c2
        clear hx
        obtain ⟨x0, x1, x2⟩ := x
        simp only at c0 c1 c2
        have hqi : (q : Int) < (l.length : Int) := by omega
        have hq60 : (q : Int) ≤ 60 := by omega
        by_cases h1 : x0 = 1
        · subst h1
          have HC := Lib.hid (delete_yes g d L x1 _ (HM.out.keep (bel_box wr (.cells #[.int .i64 1, .int .i64 x1, .string x2] 31))))
          go_wp2_with fail
          refine HC.out.mono ?_
          rintro e w5 ⟨rfl, hm, hg⟩
          have HM5 := Lib.hid hm
          have HN5 := Lib.hid ((HN.out.keep (bel_box wr (.cells #[.int .i64 1, .int .i64 x1, .string x2] 31))).gb hg (HM.out.keep (bel_box wr (.cells #[.int .i64 1, .int .i64 x1, .string x2] 31))) (by have := HGN.out; omega))
          have HB5 := Lib.hid (below_gb (HB.out.alloc HB.out.size (.cells #[.int .i64 1, .int .i64 x1, .string x2] 31)) hg (Nat.le_trans HB.out.size (bel_box wr (.cells #[.int .i64 1, .int .i64 x1, .string x2] 31)).size) HGN.out.1)
          clear hm hg HC HM HN HB
          go_wp2_with fail
          go_roundw
          case rel => exact ⟨q + 1, delR L x1, by omega, by go_num, HM5, HN5, HB5, by have := delR_len L x1; omega⟩
          case measure => simp [intOf]; omega
        · have h1b : (x0 == 1) = false := by simpa using h1
          have HC := Lib.hid (set_yes g d L x1 x2 _ (by omega) (HM.out.keep (bel_box wr (.cells #[.int .i64 x0, .int .i64 x1, .string x2] 31))))
          go_wp2_with fail
          refine HC.out.mono ?_
          rintro e w5 ⟨rfl, hm, hg⟩
          have HM5 := Lib.hid hm
          have HN5 := Lib.hid ((HN.out.keep (bel_box wr (.cells #[.int .i64 x0, .int .i64 x1, .string x2] 31))).gb hg (HM.out.keep (bel_box wr (.cells #[.int .i64 x0, .int .i64 x1, .string x2] 31))) (by have := HGN.out; omega))
          have HB5 := Lib.hid (below_gb (HB.out.alloc HB.out.size (.cells #[.int .i64 x0, .int .i64 x1, .string x2] 31)) hg (Nat.le_trans HB.out.size (bel_box wr (.cells #[.int .i64 x0, .int .i64 x1, .string x2] 31)).size) HGN.out.1)
          clear hm hg HC HM HN HB
          go_wp2_with fail
          go_roundw
          case rel => exact ⟨q + 1, setR d L x1 x2, by omega, by go_num, HM5, HN5, HB5, by have := setR_le (d := d) (L := L) x1 x2; omega⟩
          case measure => simp [intOf]; omega
      · obtain rfl : q = l.length := by omega
        have hqi : ¬ (l.length : Int) < (l.length : Int) := by omega
        have hL60 : L.length ≤ 60 := by omega
        have HSr := Lib.hid HM.out.srt
        have HC := Lib.hid (All_yes g d L wr HM.out)
        go_wp2_with fail
        refine HC.out.mono ?_
        rintro e w5 ⟨b1, b2, T, z, rfl, c1, c2, hT, hL, hl, hz0, hz1, hb⟩
        have HP := Lib.hid (pairs_it 100 c1 c2 hT hL hl hz0 hz1 (by decide))
        replace HM := Lib.hid (HM.out.keep hb)
        replace HN := Lib.hid (HN.out.keep hb)
        replace HB := Lib.hid (bel_tr HB.out hb)
        clear c1 c2 hT hL hl hz0 hz1 hb HC
        go_wp2_with fail
        refine HP.out.mono ?_
        rintro e w6 ⟨v, rfl, ho, hb⟩
        rw [show L.take ((100 : Int).toNat) = L from List.take_of_length_le (by simp; omega)] at ho
        obtain ⟨av, cv, rfl, -⟩ := ho.row
        have HO := Lib.hid ho
        have HNB : Hid (n < w5.heap.size) := HN.out.lt
        replace HM := Lib.hid (HM.out.keep hb)
        replace HN := Lib.hid (HN.out.keep hb)
        replace HB := Lib.hid (bel_tr HB.out hb)
        have HLe := Lib.hid (len_yes g d L w6 HM.out)
        clear ho hb HP
        go_wp2_with fail
        refine HLe.out.mono ?_
        rintro e w7 ⟨rfl, hb⟩
        replace HO := Lib.hid (HO.out.below hb)
        replace HM := Lib.hid (HM.out.keep hb)
        replace HN := Lib.hid (HN.out.keep hb)
        replace HB := Lib.hid (bel_tr HB.out hb)
        have hLi : (L.length : Int) ≤ 60 := by omega
        have hll : ((L.length : Int) != (L.length : Int)) = false := by simp
        clear hb HLe
        go_wp2_with fail
        have hT0 : (some false == some false) = true := rfl
        have hT1 : (some true == some true) = true := rfl
        have hF1 : (some false == some true) = false := rfl
        have hN0 : ((none : Option Bool) == some false) = false := rfl
        have hN1 : ((none : Option Bool) == some true) = false := rfl
        go_loopw [60] (fun j wr => ∃ q : Nat, q ≤ L.length ∧ j = .int .i64 q ∧ Hid (OP wr w5.heap.size E (.slice av L.length cv) L) ∧ Hid (Mp wr g d L) ∧ Hid (Mp wr n d []) ∧ Hid (Below w0.heap.size w0 wr)) (fun j _ => L.length - (intOf j).toNat)
        case atStart => exact ⟨0, by omega, rfl, HO, HM, HN, HB⟩
        case round =>
          rename_i wr2 _ _ _
          clear HO HM HN HB
          obtain ⟨q, hq, rfl, HO, HM, HN, HB⟩ := hrel
          by_cases hlt : q < L.length
          · obtain ⟨bo, oo, rfl, c0, c1⟩ := HO.out.r.1.get (Below.refl _ _) q hlt
            obtain ⟨p, hp⟩ : ∃ p, p = L[q] := ⟨_, rfl⟩
            rw [← hp] at c0 c1
            have HPq := Lib.hid hp
            clear hp
            obtain ⟨p0, p1⟩ := p
            simp only at c0 c1
            have hqi : (q : Int) < (L.length : Int) := by omega
            have hq60 : (q : Int) ≤ 60 := by omega
            have HRow := Lib.hid HO.out.r.1
            go_wp2_with fail
            have HBp : Hid (Bp (wr.alloc (.cells #[.int .i64 p0, .string p1] E)) wr.heap.size (p0, p1)) := ⟨by go_simp, by go_simp⟩
            have hb8 := bel_box wr (.cells #[.int .i64 p0, .string p1] E)
            replace HO := Lib.hid (HO.out.below hb8)
            replace HM := Lib.hid (HM.out.keep hb8)
            replace HN := Lib.hid (HN.out.keep hb8)
            replace HB := Lib.hid (bel_tr HB.out hb8)
            have HRk := Lib.hid (rank_self HSr.out hlt)
            have HGk := Lib.hid (getR_self HSr.out hlt)
            rw [← HPq.out] at HRk HGk
            have HAt : Hid (atL L q = some (p0, p1)) := by show _ = _; rw [HPq.out]; unfold atL; simp [List.getElem?_eq_getElem hlt]
            clear c0 c1
            generalize wr.alloc (.cells #[.int .i64 p0, .string p1] E) = w8 at *
            generalize hbp : wr.heap.size = bp at *
            rcases q with _ | r
            · clear hb8 HRow hbp
              rw [show ((0 : Nat) : Int) = 0 from rfl] at *
              have HS : Hid (Bp w8 bp (p0, p1)) := HBp
              clear HBp
              have A2 := Lib.hid (fun w (h : Bp w bp (p0, p1)) => load_int (w := w) h.1)
              have A3 := Lib.hid (fun w (h : Bp w bp (p0, p1)) => load_str (w := w) h.2)
              have A4 := Lib.hid (fun w (h : Bp w bp (p0, p1)) => load_pair (w := w) h)
              replace HS := Lib.hid (HS.out.keep (Below.refl _ _).drew)
              replace HO := Lib.hid (HO.out.below (Below.refl _ _).drew)
              replace HM := Lib.hid (HM.out.keep (Below.refl _ _).drew)
              replace HN := Lib.hid (HN.out.keep (Below.refl _ _).drew)
              replace HB := Lib.hid (bel_tr HB.out (Below.refl _ _).drew)
              refine Sch.wp_region_tn (fun w => Bp w bp (p0, p1)) (.val 0 (.val 1 (.val 2 (.val 3 (.val 4 (.val 5 (.val 6 (.val 7 (.val 8 (.val 9 (.val 10 (.val 11 (.val 12 (.val 13 (.val 14 (.val 15 (.val 16 (.val 17 (.val 18 (.val 19 (.val 20 (.val 21 (.val 22 (.val 23 (.val 24 (.val 25 (.val 26 (.val 27 (.val 28 (.val 29 (.val 30 (.val 31 (.val 32 (.val 33 (.val 34 (.val 36 (.one 35 (.val 37 (.val 38 (.val 39 (.val 40 (.val 41 (.val 42 (.one 43 (.val 44 (.val 45 (.val 46 (.val 47 (.val 48 (.val 49 (.val 50 (.val 51 (.one 52 (.val 53 (.val 54 .done))))))))))))))))))))))))))))))))))))))))))))))))))))))) (by kernel_rfl) (by kernel_rfl) HS.out ?_
              generalize w8.drew = w9 at *
              refine Sch.tn_q rfl rfl rfl (fun K hK => ?_)
              go_big_quiet_op
              first | refine hK _ ?_ | refine ⟨_, fun _ _ => rfl, hK _ ?_⟩
              clear hK K
              refine Sch.tn_q rfl rfl rfl (fun K hK => ?_)
              go_big_quiet_op
              first | refine hK _ ?_ | refine ⟨_, fun _ _ => rfl, hK _ ?_⟩
              clear hK K
              refine Sch.tn_q rfl rfl rfl (fun K hK => ?_)
              go_big_quiet_op
              first | refine hK _ ?_ | refine ⟨_, fun _ _ => rfl, hK _ ?_⟩
              clear hK K
              refine Sch.tn_s _ rfl hF1 rfl ?_
              simp only [Act.put, List.setIfInBounds_toArray, List.set_cons_zero, List.set_cons_succ]
              refine Sch.tn_s _ rfl hF1 rfl ?_
              simp only [Act.put, List.setIfInBounds_toArray, List.set_cons_zero, List.set_cons_succ]
              refine Sch.tn_s _ rfl hN1 rfl ?_
              simp only [Act.put, List.setIfInBounds_toArray, List.set_cons_zero, List.set_cons_succ]
              refine Sch.tn_s _ rfl hN1 rfl ?_
              simp only [Act.put, List.setIfInBounds_toArray, List.set_cons_zero, List.set_cons_succ]
              refine Sch.tn_s _ rfl hN1 rfl ?_
              simp only [Act.put, List.setIfInBounds_toArray, List.set_cons_zero, List.set_cons_succ]
              refine Sch.tn_s _ rfl hN1 rfl ?_
              simp only [Act.put, List.setIfInBounds_toArray, List.set_cons_zero, List.set_cons_succ]
              refine Sch.tn_s _ rfl hN1 rfl ?_
              simp only [Act.put, List.setIfInBounds_toArray, List.set_cons_zero, List.set_cons_succ]
              refine Sch.tn_s _ rfl hN1 rfl ?_
              simp only [Act.put, List.setIfInBounds_toArray, List.set_cons_zero, List.set_cons_succ]
              refine Sch.tn_s _ rfl hN1 rfl ?_
              simp only [Act.put, List.setIfInBounds_toArray, List.set_cons_zero, List.set_cons_succ]
              refine Sch.tn_s _ rfl hN1 rfl ?_
              simp only [Act.put, List.setIfInBounds_toArray, List.set_cons_zero, List.set_cons_succ]
              refine Sch.tn_s _ rfl hN1 rfl ?_
              simp only [Act.put, List.setIfInBounds_toArray, List.set_cons_zero, List.set_cons_succ]
              refine Sch.tn_s _ rfl hF1 rfl ?_
              simp only [Act.put, List.setIfInBounds_toArray, List.set_cons_zero, List.set_cons_succ]
              refine Sch.tn_s _ rfl hF1 rfl ?_
              simp only [Act.put, List.setIfInBounds_toArray, List.set_cons_zero, List.set_cons_succ]
              refine Sch.tn_s _ rfl hN0 rfl ?_
              simp only [Act.put, List.setIfInBounds_toArray, List.set_cons_zero, List.set_cons_succ]
              refine Sch.tn_s _ rfl hN0 rfl ?_
              simp only [Act.put, List.setIfInBounds_toArray, List.set_cons_zero, List.set_cons_succ]
              refine Sch.tn_s _ rfl hN0 rfl ?_
              simp only [Act.put, List.setIfInBounds_toArray, List.set_cons_zero, List.set_cons_succ]
              refine Sch.tn_s _ rfl hN1 rfl ?_
              simp only [Act.put, List.setIfInBounds_toArray, List.set_cons_zero, List.set_cons_succ]
              refine Sch.tn_s _ rfl hN1 rfl ?_
              simp only [Act.put, List.setIfInBounds_toArray, List.set_cons_zero, List.set_cons_succ]
              refine Sch.tn_s _ rfl hN1 rfl ?_
              simp only [Act.put, List.setIfInBounds_toArray, List.set_cons_zero, List.set_cons_succ]
              refine Sch.tn_s _ rfl hN1 rfl ?_
              simp only [Act.put, List.setIfInBounds_toArray, List.set_cons_zero, List.set_cons_succ]
              refine Sch.tn_s _ rfl hN1 rfl ?_
              simp only [Act.put, List.setIfInBounds_toArray, List.set_cons_zero, List.set_cons_succ]
              refine Sch.tn_s _ rfl hN1 rfl ?_
              simp only [Act.put, List.setIfInBounds_toArray, List.set_cons_zero, List.set_cons_succ]
              refine Sch.tn_s _ rfl hN1 rfl ?_
              simp only [Act.put, List.setIfInBounds_toArray, List.set_cons_zero, List.set_cons_succ]
              refine Sch.tn_s _ rfl hN1 rfl ?_
              simp only [Act.put, List.setIfInBounds_toArray, List.set_cons_zero, List.set_cons_succ]
              refine Sch.tn_s _ rfl hN1 rfl ?_
              simp only [Act.put, List.setIfInBounds_toArray, List.set_cons_zero, List.set_cons_succ]
              refine Sch.tn_s _ rfl hN0 rfl ?_
              simp only [Act.put, List.setIfInBounds_toArray, List.set_cons_zero, List.set_cons_succ]
              refine Sch.tn_s _ rfl hF1 rfl ?_
              simp only [Act.put, List.setIfInBounds_toArray, List.set_cons_zero, List.set_cons_succ]
              refine Sch.tn_q rfl rfl rfl (fun K hK => ?_)
              go_big_quiet_op
              first | refine hK _ ?_ | refine ⟨_, fun _ _ => rfl, hK _ ?_⟩
              clear hK K
              refine Sch.tn_q rfl rfl rfl (fun K hK => ?_)
              go_big_quiet_op
              first | refine hK _ ?_ | refine ⟨_, fun _ _ => rfl, hK _ ?_⟩
              clear hK K
              refine Sch.tn_q rfl rfl hT0 (fun K hK => ?_)
              go_big_quiet_op
              first | refine hK _ ?_ | refine ⟨_, fun _ _ => rfl, hK _ ?_⟩
              clear hK K
              refine Sch.tn_q rfl rfl hT0 (fun K hK => ?_)
              go_big_quiet_op
              first | refine hK _ ?_ | refine ⟨_, fun _ _ => rfl, hK _ ?_⟩
              clear hK K
              refine Sch.tn_load _ _ _ _ _ rfl rfl hT0 rfl (by exact A2.out) rfl ?_
              simp only [Act.put, List.setIfInBounds_toArray, List.set_cons_zero, List.set_cons_succ]
              refine Sch.tn_q rfl rfl hT0 (fun K hK => ?_)
              go_big_quiet_op
              first | refine hK _ ?_ | refine ⟨_, fun _ _ => rfl, hK _ ?_⟩
              clear hK K
              have h := rank_yes g d L p0 _ HM.out
              rw [HRk.out] at h
              have HC := Lib.hid h
              clear h
              refine Sch.tn_e rfl hT0 (fun K hK => ?_)
              go_wp2_with fail
              refine HC.out.mono ?_
              rintro e w11 ⟨rfl, hb⟩
              replace HO := Lib.hid (HO.out.below hb)
              replace HM := Lib.hid (HM.out.keep hb)
              replace HN := Lib.hid (HN.out.keep hb)
              replace HB := Lib.hid (bel_tr HB.out hb)
              replace HS := Lib.hid (HS.out.keep hb)
              clear hb HC
              refine hK _ _ HS.out ?_
              clear hK K
              refine Sch.tn_q rfl rfl hT0 (fun K hK => ?_)
              go_big_quiet_op
              first | refine hK _ ?_ | refine ⟨_, fun _ _ => rfl, hK _ ?_⟩
              clear hK K
              refine Sch.tn_q rfl rfl rfl (fun K hK => ?_)
              go_big_quiet_op
              first | refine hK _ ?_ | refine ⟨_, fun _ _ => rfl, hK _ ?_⟩
              clear hK K
              refine Sch.tn_q rfl rfl rfl (fun K hK => ?_)
              go_big_quiet_op
              first | refine hK _ ?_ | refine ⟨_, fun _ _ => rfl, hK _ ?_⟩
              clear hK K
              refine Sch.tn_q rfl rfl hT0 (fun K hK => ?_)
              go_big_quiet_op
              first | refine hK _ ?_ | refine ⟨_, fun _ _ => rfl, hK _ ?_⟩
              clear hK K
              refine Sch.tn_q rfl rfl hT0 (fun K hK => ?_)
              go_big_quiet_op
              first | refine hK _ ?_ | refine ⟨_, fun _ _ => rfl, hK _ ?_⟩
              clear hK K
              refine Sch.tn_load _ _ _ _ _ rfl rfl hT0 rfl (by exact A4.out) rfl ?_
              simp only [Act.put, List.setIfInBounds_toArray, List.set_cons_zero, List.set_cons_succ]
              have HC := Lib.hid (at_law (some ⟨g, 0, none⟩) 0 (some (p0, p1)) w11 (fun w' hb => by have h := at_yes g d L 0 (by omega) (by omega) w' (HM.out.keep hb); rw [HAt.out] at h; exact h))
              refine Sch.tn_e rfl hT0 (fun K hK => ?_)
              go_wp2_with fail
              refine HC.out.mono ?_
              rintro e w12 ⟨rfl, hb⟩
              replace HO := Lib.hid (HO.out.below hb)
              replace HM := Lib.hid (HM.out.keep hb)
              replace HN := Lib.hid (HN.out.keep hb)
              replace HB := Lib.hid (bel_tr HB.out hb)
              replace HS := Lib.hid (HS.out.keep hb)
              clear hb HC
              refine hK _ _ HS.out ?_
              clear hK K
              refine Sch.tn_q rfl rfl hT0 (fun K hK => ?_)
              go_big_quiet_op
              first | refine hK _ ?_ | refine ⟨_, fun _ _ => rfl, hK _ ?_⟩
              clear hK K
              refine Sch.tn_q rfl rfl rfl (fun K hK => ?_)
              go_big_quiet_op
              first | refine hK _ ?_ | refine ⟨_, fun _ _ => rfl, hK _ ?_⟩
              clear hK K
              refine Sch.tn_q rfl rfl rfl (fun K hK => ?_)
              go_big_quiet_op
              first | refine hK _ ?_ | refine ⟨_, fun _ _ => rfl, hK _ ?_⟩
              clear hK K
              refine Sch.tn_q rfl rfl hT0 (fun K hK => ?_)
              go_big_quiet_op
              first | refine hK _ ?_ | refine ⟨_, fun _ _ => rfl, hK _ ?_⟩
              clear hK K
              refine Sch.tn_q rfl rfl hT0 (fun K hK => ?_)
              go_big_quiet_op
              first | refine hK _ ?_ | refine ⟨_, fun _ _ => rfl, hK _ ?_⟩
              clear hK K
              refine Sch.tn_load _ _ _ _ _ rfl rfl hT0 rfl (by exact A2.out) rfl ?_
              simp only [Act.put, List.setIfInBounds_toArray, List.set_cons_zero, List.set_cons_succ]
              refine Sch.tn_q rfl rfl hT0 (fun K hK => ?_)
              go_big_quiet_op
              first | refine hK _ ?_ | refine ⟨_, fun _ _ => rfl, hK _ ?_⟩
              clear hK K
              refine Sch.tn_load _ _ _ _ _ rfl rfl hT0 rfl (by exact A3.out) rfl ?_
              simp only [Act.put, List.setIfInBounds_toArray, List.set_cons_zero, List.set_cons_succ]
              have HC := Lib.hid (gets_law (fun w' => Below w12.heap.size w12 w') (some ⟨g, 0, none⟩) p0 p1 true w12 (by have h := get_yes g d L p0 w12 HM.out; rw [HGk.out] at h; exact h))
              refine Sch.tn_e rfl hT0 (fun K hK => ?_)
              go_wp2_with fail
              refine HC.out.mono ?_
              rintro e w13 ⟨rfl, hb⟩
              replace HO := Lib.hid (HO.out.below hb)
              replace HM := Lib.hid (HM.out.keep hb)
              replace HN := Lib.hid (HN.out.keep hb)
              replace HB := Lib.hid (bel_tr HB.out hb)
              replace HS := Lib.hid (HS.out.keep hb)
              clear hb HC
              refine hK _ _ HS.out ?_
              clear hK K
              refine Sch.tn_q rfl rfl hT0 (fun K hK => ?_)
              go_big_quiet_op
              first | refine hK _ ?_ | refine ⟨_, fun _ _ => rfl, hK _ ?_⟩
              clear hK K
              refine Sch.tn_q rfl rfl rfl (fun K hK => ?_)
              go_big_quiet_op
              first | refine hK _ ?_ | refine ⟨_, fun _ _ => rfl, hK _ ?_⟩
              clear hK K
              refine Sch.tn_n ?_
              go_wp2_with fail
              go_roundw
              case rel => exact ⟨0 + 1, by omega, by go_num, HO, HM, HN, HB⟩
              case measure => simp [intOf]; omega
            · obtain ⟨bo', oo', e', c0', -⟩ := HRow.out.get (Below.refl _ _) r (by omega)
              simp only [Option.some.injEq, Addr.mk.injEq, and_true] at e'
              obtain ⟨rfl, rfl⟩ := e'
              obtain ⟨z, hz⟩ : ∃ z, z = (L[r]'(by omega)).1 := ⟨_, rfl⟩
              rw [← hz] at c0'
              have HZ : Hid (bef d z p0 = true) := by
                have h := List.pairwise_iff_getElem.1 HSr.out r (r + 1) (by omega) hlt (by omega)
                rw [← hz, ← HPq.out] at h
                exact h
              clear hz HRow
              rw [← hbp] at hb8
              clear hbp
              rw [show ((r + 1 : Nat) : Int) = (r : Int) + 1 from by omega] at *
              have hr0 : (0 : Int) < (r : Int) + 1 := by omega
              have hr1 : (r : Int) + 1 - 1 = (r : Int) := by omega
              have hr2 : (r : Int) < (L.length : Int) := by omega
              have hr3 : ¬ (r : Int) < 0 := by omega
              have hr4 : (r : Int) + 1 ≤ 60 := by omega
              rcases d with _ | _
              · have hz1 : ¬ p0 ≤ z := by have := bef_iff.1 HZ.out; simp at this; omega
                have HS : Hid (Bq w8 bp bo (oo + r * 2) (p0, p1) z) := ⟨HBp.out, keep_cell c0' hb8⟩
                clear HBp
                have A1 := Lib.hid (fun w (h : Bq w bp bo (oo + r * 2) (p0, p1) z) => load_int (w := w) h.2)
                have A2 := Lib.hid (fun w (h : Bq w bp bo (oo + r * 2) (p0, p1) z) => load_int (w := w) h.1.1)
                have A3 := Lib.hid (fun w (h : Bq w bp bo (oo + r * 2) (p0, p1) z) => load_str (w := w) h.1.2)
                have A4 := Lib.hid (fun w (h : Bq w bp bo (oo + r * 2) (p0, p1) z) => load_pair (w := w) h.1)
                replace HS := Lib.hid (HS.out.keep (Below.refl _ _).drew)
                replace HO := Lib.hid (HO.out.below (Below.refl _ _).drew)
                replace HM := Lib.hid (HM.out.keep (Below.refl _ _).drew)
                replace HN := Lib.hid (HN.out.keep (Below.refl _ _).drew)
                replace HB := Lib.hid (bel_tr HB.out (Below.refl _ _).drew)
                refine Sch.wp_region_tn (fun w => Bq w bp bo (oo + r * 2) (p0, p1) z) (.val 0 (.val 1 (.val 2 (.val 3 (.val 4 (.val 5 (.val 6 (.val 7 (.val 8 (.val 9 (.val 10 (.val 11 (.val 12 (.val 13 (.val 14 (.val 15 (.val 16 (.val 17 (.val 18 (.val 19 (.val 20 (.val 21 (.val 22 (.val 23 (.val 24 (.val 25 (.val 26 (.val 27 (.val 28 (.val 29 (.val 30 (.val 31 (.val 32 (.val 33 (.val 34 (.val 36 (.one 35 (.val 37 (.val 38 (.val 39 (.val 40 (.val 41 (.val 42 (.one 43 (.val 44 (.val 45 (.val 46 (.val 47 (.val 48 (.val 49 (.val 50 (.val 51 (.one 52 (.val 53 (.val 54 .done))))))))))))))))))))))))))))))))))))))))))))))))))))))) (by kernel_rfl) (by kernel_rfl) HS.out ?_
                generalize w8.drew = w9 at *
                refine Sch.tn_q rfl rfl rfl (fun K hK => ?_)
                go_big_quiet_op
                first | refine hK _ ?_ | refine ⟨_, fun _ _ => rfl, hK _ ?_⟩
                clear hK K
                refine Sch.tn_q rfl rfl rfl (fun K hK => ?_)
                go_big_quiet_op
                first | refine hK _ ?_ | refine ⟨_, fun _ _ => rfl, hK _ ?_⟩
                clear hK K
                refine Sch.tn_q rfl rfl rfl (fun K hK => ?_)
                go_big_quiet_op
                first | refine hK _ ?_ | refine ⟨_, fun _ _ => rfl, hK _ ?_⟩
                clear hK K
                refine Sch.tn_q rfl rfl hT1 (fun K hK => ?_)
                go_big_quiet_op
                first | refine hK _ ?_ | refine ⟨_, fun _ _ => rfl, hK _ ?_⟩
                clear hK K
                refine Sch.tn_q rfl rfl hT1 (fun K hK => ?_)
                go_big_quiet_op
                first | refine hK _ ?_ | refine ⟨_, fun _ _ => rfl, hK _ ?_⟩
                clear hK K
                refine Sch.tn_s _ rfl hF1 rfl ?_
                simp only [Act.put, List.setIfInBounds_toArray, List.set_cons_zero, List.set_cons_succ]
                refine Sch.tn_s _ rfl hF1 rfl ?_
                simp only [Act.put, List.setIfInBounds_toArray, List.set_cons_zero, List.set_cons_succ]
                refine Sch.tn_s _ rfl hF1 rfl ?_
                simp only [Act.put, List.setIfInBounds_toArray, List.set_cons_zero, List.set_cons_succ]
                refine Sch.tn_s _ rfl hF1 rfl ?_
                simp only [Act.put, List.setIfInBounds_toArray, List.set_cons_zero, List.set_cons_succ]
                refine Sch.tn_s _ rfl hF1 rfl ?_
                simp only [Act.put, List.setIfInBounds_toArray, List.set_cons_zero, List.set_cons_succ]
                refine Sch.tn_s _ rfl hF1 rfl ?_
                simp only [Act.put, List.setIfInBounds_toArray, List.set_cons_zero, List.set_cons_succ]
                refine Sch.tn_s _ rfl hF1 rfl ?_
                simp only [Act.put, List.setIfInBounds_toArray, List.set_cons_zero, List.set_cons_succ]
                refine Sch.tn_s _ rfl hF1 rfl ?_
                simp only [Act.put, List.setIfInBounds_toArray, List.set_cons_zero, List.set_cons_succ]
                refine Sch.tn_s _ rfl hF1 rfl ?_
                simp only [Act.put, List.setIfInBounds_toArray, List.set_cons_zero, List.set_cons_succ]
                refine Sch.tn_q rfl rfl hT1 (fun K hK => ?_)
                go_big_quiet_op
                first | refine hK _ ?_ | refine ⟨_, fun _ _ => rfl, hK _ ?_⟩
                clear hK K
                refine Sch.tn_q rfl rfl hT1 (fun K hK => ?_)
                go_big_quiet_op
                first | refine hK _ ?_ | refine ⟨_, fun _ _ => rfl, hK _ ?_⟩
                clear hK K
                refine Sch.tn_q rfl rfl hT0 (fun K hK => ?_)
                go_big_quiet_op
                first | refine hK _ ?_ | refine ⟨_, fun _ _ => rfl, hK _ ?_⟩
                clear hK K
                refine Sch.tn_q rfl rfl hT0 (fun K hK => ?_)
                go_big_quiet_op
                first | refine hK _ ?_ | refine ⟨_, fun _ _ => rfl, hK _ ?_⟩
                clear hK K
                refine Sch.tn_q rfl rfl hT0 (fun K hK => ?_)
                go_big_quiet_op
                first | refine hK _ ?_ | refine ⟨_, fun _ _ => rfl, hK _ ?_⟩
                clear hK K
                refine Sch.tn_q rfl rfl hT1 (fun K hK => ?_)
                go_big_quiet_op
                first | refine hK _ ?_ | refine ⟨_, fun _ _ => rfl, hK _ ?_⟩
                clear hK K
                refine Sch.tn_q rfl rfl hT1 (fun K hK => ?_)
                go_big_quiet_op
                first | refine hK _ ?_ | refine ⟨_, fun _ _ => rfl, hK _ ?_⟩
                clear hK K
                refine Sch.tn_q rfl rfl hT1 (fun K hK => ?_)
                go_big_quiet_op
                first | refine hK _ ?_ | refine ⟨_, fun _ _ => rfl, hK _ ?_⟩
                clear hK K
                refine Sch.tn_q rfl rfl hT1 (fun K hK => ?_)
                go_big_quiet_op
                first | refine hK _ ?_ | refine ⟨_, fun _ _ => rfl, hK _ ?_⟩
                clear hK K
                refine Sch.tn_q rfl rfl hT1 (fun K hK => ?_)
                go_big_quiet_op
                first | refine hK _ ?_ | refine ⟨_, fun _ _ => rfl, hK _ ?_⟩
                clear hK K
                refine Sch.tn_load _ _ _ _ _ rfl rfl hT1 rfl (by exact A1.out) rfl ?_
                simp only [Act.put, List.setIfInBounds_toArray, List.set_cons_zero, List.set_cons_succ]
                refine Sch.tn_q rfl rfl hT1 (fun K hK => ?_)
                go_big_quiet_op
                first | refine hK _ ?_ | refine ⟨_, fun _ _ => rfl, hK _ ?_⟩
                clear hK K
                refine Sch.tn_load _ _ _ _ _ rfl rfl hT1 rfl (by exact A2.out) rfl ?_
                simp only [Act.put, List.setIfInBounds_toArray, List.set_cons_zero, List.set_cons_succ]
                refine Sch.tn_q rfl rfl hT1 (fun K hK => ?_)
                go_big_quiet_op
                first | refine hK _ ?_ | refine ⟨_, fun _ _ => rfl, hK _ ?_⟩
                clear hK K
                refine Sch.tn_q rfl rfl hT0 (fun K hK => ?_)
                go_big_quiet_op
                first | refine hK _ ?_ | refine ⟨_, fun _ _ => rfl, hK _ ?_⟩
                clear hK K
                refine Sch.tn_q rfl rfl hT1 (fun K hK => ?_)
                go_big_quiet_op
                first | refine hK _ ?_ | refine ⟨_, fun _ _ => rfl, hK _ ?_⟩
                clear hK K
                refine Sch.tn_q rfl rfl rfl (fun K hK => ?_)
                go_big_quiet_op
                first | refine hK _ ?_ | refine ⟨_, fun _ _ => rfl, hK _ ?_⟩
                clear hK K
                refine Sch.tn_q rfl rfl rfl (fun K hK => ?_)
                go_big_quiet_op
                first | refine hK _ ?_ | refine ⟨_, fun _ _ => rfl, hK _ ?_⟩
                clear hK K
                refine Sch.tn_q rfl rfl hT0 (fun K hK => ?_)
                go_big_quiet_op
                first | refine hK _ ?_ | refine ⟨_, fun _ _ => rfl, hK _ ?_⟩
                clear hK K
                refine Sch.tn_q rfl rfl hT0 (fun K hK => ?_)
                go_big_quiet_op
                first | refine hK _ ?_ | refine ⟨_, fun _ _ => rfl, hK _ ?_⟩
                clear hK K
                refine Sch.tn_load _ _ _ _ _ rfl rfl hT0 rfl (by exact A2.out) rfl ?_
                simp only [Act.put, List.setIfInBounds_toArray, List.set_cons_zero, List.set_cons_succ]
                refine Sch.tn_q rfl rfl hT0 (fun K hK => ?_)
                go_big_quiet_op
                first | refine hK _ ?_ | refine ⟨_, fun _ _ => rfl, hK _ ?_⟩
                clear hK K
                have h := rank_yes g false L p0 _ HM.out
                rw [HRk.out] at h
                have HC := Lib.hid h
                clear h
                refine Sch.tn_e rfl hT0 (fun K hK => ?_)
                go_wp2_with fail
                refine HC.out.mono ?_
                rintro e w11 ⟨rfl, hb⟩
                replace HO := Lib.hid (HO.out.below hb)
                replace HM := Lib.hid (HM.out.keep hb)
                replace HN := Lib.hid (HN.out.keep hb)
                replace HB := Lib.hid (bel_tr HB.out hb)
                replace HS := Lib.hid (HS.out.keep hb)
                clear hb HC
                refine hK _ _ HS.out ?_
                clear hK K
                refine Sch.tn_q rfl rfl hT0 (fun K hK => ?_)
                go_big_quiet_op
                first | refine hK _ ?_ | refine ⟨_, fun _ _ => rfl, hK _ ?_⟩
                clear hK K
                refine Sch.tn_q rfl rfl rfl (fun K hK => ?_)
                go_big_quiet_op
                first | refine hK _ ?_ | refine ⟨_, fun _ _ => rfl, hK _ ?_⟩
                clear hK K
                refine Sch.tn_q rfl rfl rfl (fun K hK => ?_)
                go_big_quiet_op
                first | refine hK _ ?_ | refine ⟨_, fun _ _ => rfl, hK _ ?_⟩
                clear hK K
                refine Sch.tn_q rfl rfl hT0 (fun K hK => ?_)
                go_big_quiet_op
                first | refine hK _ ?_ | refine ⟨_, fun _ _ => rfl, hK _ ?_⟩
                clear hK K
                refine Sch.tn_q rfl rfl hT0 (fun K hK => ?_)
                go_big_quiet_op
                first | refine hK _ ?_ | refine ⟨_, fun _ _ => rfl, hK _ ?_⟩
                clear hK K
                refine Sch.tn_load _ _ _ _ _ rfl rfl hT0 rfl (by exact A4.out) rfl ?_
                simp only [Act.put, List.setIfInBounds_toArray, List.set_cons_zero, List.set_cons_succ]
                have HC := Lib.hid (at_law (some ⟨g, 0, none⟩) ((r : Int) + 1) (some (p0, p1)) w11 (fun w' hb => by have h := at_yes g false L ((r : Int) + 1) (by omega) (by omega) w' (HM.out.keep hb); rw [HAt.out] at h; exact h))
                refine Sch.tn_e rfl hT0 (fun K hK => ?_)
                go_wp2_with fail
                refine HC.out.mono ?_
                rintro e w12 ⟨rfl, hb⟩
                replace HO := Lib.hid (HO.out.below hb)
                replace HM := Lib.hid (HM.out.keep hb)
                replace HN := Lib.hid (HN.out.keep hb)
                replace HB := Lib.hid (bel_tr HB.out hb)
                replace HS := Lib.hid (HS.out.keep hb)
                clear hb HC
                refine hK _ _ HS.out ?_
                clear hK K
                refine Sch.tn_q rfl rfl hT0 (fun K hK => ?_)
                go_big_quiet_op
                first | refine hK _ ?_ | refine ⟨_, fun _ _ => rfl, hK _ ?_⟩
                clear hK K
                refine Sch.tn_q rfl rfl rfl (fun K hK => ?_)
                go_big_quiet_op
                first | refine hK _ ?_ | refine ⟨_, fun _ _ => rfl, hK _ ?_⟩
                clear hK K
                refine Sch.tn_q rfl rfl rfl (fun K hK => ?_)
                go_big_quiet_op
                first | refine hK _ ?_ | refine ⟨_, fun _ _ => rfl, hK _ ?_⟩
                clear hK K
                refine Sch.tn_q rfl rfl hT0 (fun K hK => ?_)
                go_big_quiet_op
                first | refine hK _ ?_ | refine ⟨_, fun _ _ => rfl, hK _ ?_⟩
                clear hK K
                refine Sch.tn_q rfl rfl hT0 (fun K hK => ?_)
                go_big_quiet_op
                first | refine hK _ ?_ | refine ⟨_, fun _ _ => rfl, hK _ ?_⟩
                clear hK K
                refine Sch.tn_load _ _ _ _ _ rfl rfl hT0 rfl (by exact A2.out) rfl ?_
                simp only [Act.put, List.setIfInBounds_toArray, List.set_cons_zero, List.set_cons_succ]
                refine Sch.tn_q rfl rfl hT0 (fun K hK => ?_)
                go_big_quiet_op
                first | refine hK _ ?_ | refine ⟨_, fun _ _ => rfl, hK _ ?_⟩
                clear hK K
                refine Sch.tn_load _ _ _ _ _ rfl rfl hT0 rfl (by exact A3.out) rfl ?_
                simp only [Act.put, List.setIfInBounds_toArray, List.set_cons_zero, List.set_cons_succ]
                have HC := Lib.hid (gets_law (fun w' => Below w12.heap.size w12 w') (some ⟨g, 0, none⟩) p0 p1 true w12 (by have h := get_yes g false L p0 w12 HM.out; rw [HGk.out] at h; exact h))
                refine Sch.tn_e rfl hT0 (fun K hK => ?_)
                go_wp2_with fail
                refine HC.out.mono ?_
                rintro e w13 ⟨rfl, hb⟩
                replace HO := Lib.hid (HO.out.below hb)
                replace HM := Lib.hid (HM.out.keep hb)
                replace HN := Lib.hid (HN.out.keep hb)
                replace HB := Lib.hid (bel_tr HB.out hb)
                replace HS := Lib.hid (HS.out.keep hb)
                clear hb HC
                refine hK _ _ HS.out ?_
                clear hK K
                refine Sch.tn_q rfl rfl hT0 (fun K hK => ?_)
                go_big_quiet_op
                first | refine hK _ ?_ | refine ⟨_, fun _ _ => rfl, hK _ ?_⟩
                clear hK K
                refine Sch.tn_q rfl rfl rfl (fun K hK => ?_)
                go_big_quiet_op
                first | refine hK _ ?_ | refine ⟨_, fun _ _ => rfl, hK _ ?_⟩
                clear hK K
                refine Sch.tn_n ?_
                go_wp2_with fail
                go_roundw
                case rel => exact ⟨(r + 1) + 1, by omega, by go_num, HO, HM, HN, HB⟩
                case measure => simp [intOf]; omega
              · have hz1 : ¬ z ≤ p0 := by have := bef_iff.1 HZ.out; simp at this; omega
                have HS : Hid (Bq w8 bp bo (oo + r * 2) (p0, p1) z) := ⟨HBp.out, keep_cell c0' hb8⟩
                clear HBp
                have A1 := Lib.hid (fun w (h : Bq w bp bo (oo + r * 2) (p0, p1) z) => load_int (w := w) h.2)
                have A2 := Lib.hid (fun w (h : Bq w bp bo (oo + r * 2) (p0, p1) z) => load_int (w := w) h.1.1)
                have A3 := Lib.hid (fun w (h : Bq w bp bo (oo + r * 2) (p0, p1) z) => load_str (w := w) h.1.2)
                have A4 := Lib.hid (fun w (h : Bq w bp bo (oo + r * 2) (p0, p1) z) => load_pair (w := w) h.1)
                replace HS := Lib.hid (HS.out.keep (Below.refl _ _).drew)
                replace HO := Lib.hid (HO.out.below (Below.refl _ _).drew)
                replace HM := Lib.hid (HM.out.keep (Below.refl _ _).drew)
                replace HN := Lib.hid (HN.out.keep (Below.refl _ _).drew)
                replace HB := Lib.hid (bel_tr HB.out (Below.refl _ _).drew)
                refine Sch.wp_region_tn (fun w => Bq w bp bo (oo + r * 2) (p0, p1) z) (.val 0 (.val 1 (.val 2 (.val 3 (.val 4 (.val 5 (.val 6 (.val 7 (.val 8 (.val 9 (.val 10 (.val 11 (.val 12 (.val 13 (.val 14 (.val 15 (.val 16 (.val 17 (.val 18 (.val 19 (.val 20 (.val 21 (.val 22 (.val 23 (.val 24 (.val 25 (.val 26 (.val 27 (.val 28 (.val 29 (.val 30 (.val 31 (.val 32 (.val 33 (.val 34 (.val 36 (.one 35 (.val 37 (.val 38 (.val 39 (.val 40 (.val 41 (.val 42 (.one 43 (.val 44 (.val 45 (.val 46 (.val 47 (.val 48 (.val 49 (.val 50 (.val 51 (.one 52 (.val 53 (.val 54 .done))))))))))))))))))))))))))))))))))))))))))))))))))))))) (by kernel_rfl) (by kernel_rfl) HS.out ?_
                generalize w8.drew = w9 at *
                refine Sch.tn_q rfl rfl rfl (fun K hK => ?_)
                go_big_quiet_op
                first | refine hK _ ?_ | refine ⟨_, fun _ _ => rfl, hK _ ?_⟩
                clear hK K
                refine Sch.tn_q rfl rfl rfl (fun K hK => ?_)
                go_big_quiet_op
                first | refine hK _ ?_ | refine ⟨_, fun _ _ => rfl, hK _ ?_⟩
                clear hK K
                refine Sch.tn_q rfl rfl rfl (fun K hK => ?_)
                go_big_quiet_op
                first | refine hK _ ?_ | refine ⟨_, fun _ _ => rfl, hK _ ?_⟩
                clear hK K
                refine Sch.tn_q rfl rfl hT1 (fun K hK => ?_)
                go_big_quiet_op
                first | refine hK _ ?_ | refine ⟨_, fun _ _ => rfl, hK _ ?_⟩
                clear hK K
                refine Sch.tn_q rfl rfl hT1 (fun K hK => ?_)
                go_big_quiet_op
                first | refine hK _ ?_ | refine ⟨_, fun _ _ => rfl, hK _ ?_⟩
                clear hK K
                refine Sch.tn_q rfl rfl hT1 (fun K hK => ?_)
                go_big_quiet_op
                first | refine hK _ ?_ | refine ⟨_, fun _ _ => rfl, hK _ ?_⟩
                clear hK K
                refine Sch.tn_q rfl rfl hT1 (fun K hK => ?_)
                go_big_quiet_op
                first | refine hK _ ?_ | refine ⟨_, fun _ _ => rfl, hK _ ?_⟩
                clear hK K
                refine Sch.tn_q rfl rfl hT1 (fun K hK => ?_)
                go_big_quiet_op
                first | refine hK _ ?_ | refine ⟨_, fun _ _ => rfl, hK _ ?_⟩
                clear hK K
                refine Sch.tn_q rfl rfl hT1 (fun K hK => ?_)
                go_big_quiet_op
                first | refine hK _ ?_ | refine ⟨_, fun _ _ => rfl, hK _ ?_⟩
                clear hK K
                refine Sch.tn_q rfl rfl hT1 (fun K hK => ?_)
                go_big_quiet_op
                first | refine hK _ ?_ | refine ⟨_, fun _ _ => rfl, hK _ ?_⟩
                clear hK K
                refine Sch.tn_load _ _ _ _ _ rfl rfl hT1 rfl (by exact A1.out) rfl ?_
                simp only [Act.put, List.setIfInBounds_toArray, List.set_cons_zero, List.set_cons_succ]
                refine Sch.tn_q rfl rfl hT1 (fun K hK => ?_)
                go_big_quiet_op
                first | refine hK _ ?_ | refine ⟨_, fun _ _ => rfl, hK _ ?_⟩
                clear hK K
                refine Sch.tn_load _ _ _ _ _ rfl rfl hT1 rfl (by exact A2.out) rfl ?_
                simp only [Act.put, List.setIfInBounds_toArray, List.set_cons_zero, List.set_cons_succ]
                refine Sch.tn_q rfl rfl hT1 (fun K hK => ?_)
                go_big_quiet_op
                first | refine hK _ ?_ | refine ⟨_, fun _ _ => rfl, hK _ ?_⟩
                clear hK K
                refine Sch.tn_q rfl rfl hT1 (fun K hK => ?_)
                go_big_quiet_op
                first | refine hK _ ?_ | refine ⟨_, fun _ _ => rfl, hK _ ?_⟩
                clear hK K
                refine Sch.tn_q rfl rfl hT1 (fun K hK => ?_)
                go_big_quiet_op
                first | refine hK _ ?_ | refine ⟨_, fun _ _ => rfl, hK _ ?_⟩
                clear hK K
                refine Sch.tn_q rfl rfl hT0 (fun K hK => ?_)
                go_big_quiet_op
                first | refine hK _ ?_ | refine ⟨_, fun _ _ => rfl, hK _ ?_⟩
                clear hK K
                refine Sch.tn_q rfl rfl hT0 (fun K hK => ?_)
                go_big_quiet_op
                first | refine hK _ ?_ | refine ⟨_, fun _ _ => rfl, hK _ ?_⟩
                clear hK K
                refine Sch.tn_q rfl rfl hT0 (fun K hK => ?_)
                go_big_quiet_op
                first | refine hK _ ?_ | refine ⟨_, fun _ _ => rfl, hK _ ?_⟩
                clear hK K
                refine Sch.tn_s _ rfl hF1 rfl ?_
                simp only [Act.put, List.setIfInBounds_toArray, List.set_cons_zero, List.set_cons_succ]
                refine Sch.tn_s _ rfl hF1 rfl ?_
                simp only [Act.put, List.setIfInBounds_toArray, List.set_cons_zero, List.set_cons_succ]
                refine Sch.tn_s _ rfl hF1 rfl ?_
                simp only [Act.put, List.setIfInBounds_toArray, List.set_cons_zero, List.set_cons_succ]
                refine Sch.tn_s _ rfl hF1 rfl ?_
                simp only [Act.put, List.setIfInBounds_toArray, List.set_cons_zero, List.set_cons_succ]
                refine Sch.tn_s _ rfl hF1 rfl ?_
                simp only [Act.put, List.setIfInBounds_toArray, List.set_cons_zero, List.set_cons_succ]
                refine Sch.tn_s _ rfl hF1 rfl ?_
                simp only [Act.put, List.setIfInBounds_toArray, List.set_cons_zero, List.set_cons_succ]
                refine Sch.tn_s _ rfl hF1 rfl ?_
                simp only [Act.put, List.setIfInBounds_toArray, List.set_cons_zero, List.set_cons_succ]
                refine Sch.tn_s _ rfl hF1 rfl ?_
                simp only [Act.put, List.setIfInBounds_toArray, List.set_cons_zero, List.set_cons_succ]
                refine Sch.tn_s _ rfl hF1 rfl ?_
                simp only [Act.put, List.setIfInBounds_toArray, List.set_cons_zero, List.set_cons_succ]
                refine Sch.tn_q rfl rfl hT0 (fun K hK => ?_)
                go_big_quiet_op
                first | refine hK _ ?_ | refine ⟨_, fun _ _ => rfl, hK _ ?_⟩
                clear hK K
                refine Sch.tn_q rfl rfl hT1 (fun K hK => ?_)
                go_big_quiet_op
                first | refine hK _ ?_ | refine ⟨_, fun _ _ => rfl, hK _ ?_⟩
                clear hK K
                refine Sch.tn_q rfl rfl rfl (fun K hK => ?_)
                go_big_quiet_op
                first | refine hK _ ?_ | refine ⟨_, fun _ _ => rfl, hK _ ?_⟩
                clear hK K
                refine Sch.tn_q rfl rfl rfl (fun K hK => ?_)
                go_big_quiet_op
                first | refine hK _ ?_ | refine ⟨_, fun _ _ => rfl, hK _ ?_⟩
                clear hK K
                refine Sch.tn_q rfl rfl hT0 (fun K hK => ?_)
                go_big_quiet_op
                first | refine hK _ ?_ | refine ⟨_, fun _ _ => rfl, hK _ ?_⟩
                clear hK K
                refine Sch.tn_q rfl rfl hT0 (fun K hK => ?_)
                go_big_quiet_op
                first | refine hK _ ?_ | refine ⟨_, fun _ _ => rfl, hK _ ?_⟩
                clear hK K
                refine Sch.tn_load _ _ _ _ _ rfl rfl hT0 rfl (by exact A2.out) rfl ?_
                simp only [Act.put, List.setIfInBounds_toArray, List.set_cons_zero, List.set_cons_succ]
                refine Sch.tn_q rfl rfl hT0 (fun K hK => ?_)
                go_big_quiet_op
                first | refine hK _ ?_ | refine ⟨_, fun _ _ => rfl, hK _ ?_⟩
                clear hK K
                have h := rank_yes g true L p0 _ HM.out
                rw [HRk.out] at h
                have HC := Lib.hid h
                clear h
                refine Sch.tn_e rfl hT0 (fun K hK => ?_)
                go_wp2_with fail
                refine HC.out.mono ?_
                rintro e w11 ⟨rfl, hb⟩
                replace HO := Lib.hid (HO.out.below hb)
                replace HM := Lib.hid (HM.out.keep hb)
                replace HN := Lib.hid (HN.out.keep hb)
                replace HB := Lib.hid (bel_tr HB.out hb)
                replace HS := Lib.hid (HS.out.keep hb)
                clear hb HC
                refine hK _ _ HS.out ?_
                clear hK K
                refine Sch.tn_q rfl rfl hT0 (fun K hK => ?_)
                go_big_quiet_op
                first | refine hK _ ?_ | refine ⟨_, fun _ _ => rfl, hK _ ?_⟩
                clear hK K
                refine Sch.tn_q rfl rfl rfl (fun K hK => ?_)
                go_big_quiet_op
                first | refine hK _ ?_ | refine ⟨_, fun _ _ => rfl, hK _ ?_⟩
                clear hK K
                refine Sch.tn_q rfl rfl rfl (fun K hK => ?_)
                go_big_quiet_op
                first | refine hK _ ?_ | refine ⟨_, fun _ _ => rfl, hK _ ?_⟩
                clear hK K
                refine Sch.tn_q rfl rfl hT0 (fun K hK => ?_)
                go_big_quiet_op
                first | refine hK _ ?_ | refine ⟨_, fun _ _ => rfl, hK _ ?_⟩
                clear hK K
                refine Sch.tn_q rfl rfl hT0 (fun K hK => ?_)
                go_big_quiet_op
                first | refine hK _ ?_ | refine ⟨_, fun _ _ => rfl, hK _ ?_⟩
                clear hK K
                refine Sch.tn_load _ _ _ _ _ rfl rfl hT0 rfl (by exact A4.out) rfl ?_
                simp only [Act.put, List.setIfInBounds_toArray, List.set_cons_zero, List.set_cons_succ]
                have HC := Lib.hid (at_law (some ⟨g, 0, none⟩) ((r : Int) + 1) (some (p0, p1)) w11 (fun w' hb => by have h := at_yes g true L ((r : Int) + 1) (by omega) (by omega) w' (HM.out.keep hb); rw [HAt.out] at h; exact h))
                refine Sch.tn_e rfl hT0 (fun K hK => ?_)
                go_wp2_with fail
                refine HC.out.mono ?_
                rintro e w12 ⟨rfl, hb⟩
                replace HO := Lib.hid (HO.out.below hb)
                replace HM := Lib.hid (HM.out.keep hb)
                replace HN := Lib.hid (HN.out.keep hb)
                replace HB := Lib.hid (bel_tr HB.out hb)
                replace HS := Lib.hid (HS.out.keep hb)
                clear hb HC
                refine hK _ _ HS.out ?_
                clear hK K
                refine Sch.tn_q rfl rfl hT0 (fun K hK => ?_)
                go_big_quiet_op
                first | refine hK _ ?_ | refine ⟨_, fun _ _ => rfl, hK _ ?_⟩
                clear hK K
                refine Sch.tn_q rfl rfl rfl (fun K hK => ?_)
                go_big_quiet_op
                first | refine hK _ ?_ | refine ⟨_, fun _ _ => rfl, hK _ ?_⟩
                clear hK K
                refine Sch.tn_q rfl rfl rfl (fun K hK => ?_)
                go_big_quiet_op
                first | refine hK _ ?_ | refine ⟨_, fun _ _ => rfl, hK _ ?_⟩
                clear hK K
                refine Sch.tn_q rfl rfl hT0 (fun K hK => ?_)
                go_big_quiet_op
                first | refine hK _ ?_ | refine ⟨_, fun _ _ => rfl, hK _ ?_⟩
                clear hK K
                refine Sch.tn_q rfl rfl hT0 (fun K hK => ?_)
                go_big_quiet_op
                first | refine hK _ ?_ | refine ⟨_, fun _ _ => rfl, hK _ ?_⟩
                clear hK K
                refine Sch.tn_load _ _ _ _ _ rfl rfl hT0 rfl (by exact A2.out) rfl ?_
                simp only [Act.put, List.setIfInBounds_toArray, List.set_cons_zero, List.set_cons_succ]
                refine Sch.tn_q rfl rfl hT0 (fun K hK => ?_)
                go_big_quiet_op
                first | refine hK _ ?_ | refine ⟨_, fun _ _ => rfl, hK _ ?_⟩
                clear hK K
                refine Sch.tn_load _ _ _ _ _ rfl rfl hT0 rfl (by exact A3.out) rfl ?_
                simp only [Act.put, List.setIfInBounds_toArray, List.set_cons_zero, List.set_cons_succ]
                have HC := Lib.hid (gets_law (fun w' => Below w12.heap.size w12 w') (some ⟨g, 0, none⟩) p0 p1 true w12 (by have h := get_yes g true L p0 w12 HM.out; rw [HGk.out] at h; exact h))
                refine Sch.tn_e rfl hT0 (fun K hK => ?_)
                go_wp2_with fail
                refine HC.out.mono ?_
                rintro e w13 ⟨rfl, hb⟩
                replace HO := Lib.hid (HO.out.below hb)
                replace HM := Lib.hid (HM.out.keep hb)
                replace HN := Lib.hid (HN.out.keep hb)
                replace HB := Lib.hid (bel_tr HB.out hb)
                replace HS := Lib.hid (HS.out.keep hb)
                clear hb HC
                refine hK _ _ HS.out ?_
                clear hK K
                refine Sch.tn_q rfl rfl hT0 (fun K hK => ?_)
                go_big_quiet_op
                first | refine hK _ ?_ | refine ⟨_, fun _ _ => rfl, hK _ ?_⟩
                clear hK K
                refine Sch.tn_q rfl rfl rfl (fun K hK => ?_)
                go_big_quiet_op
                first | refine hK _ ?_ | refine ⟨_, fun _ _ => rfl, hK _ ?_⟩
                clear hK K
                refine Sch.tn_n ?_
                go_wp2_with fail
                go_roundw
                case rel => exact ⟨(r + 1) + 1, by omega, by go_num, HO, HM, HN, HB⟩
                case measure => simp [intOf]; omega
          · obtain rfl : q = L.length := by omega
            have hqi : ¬ (L.length : Int) < (L.length : Int) := by omega
            obtain ⟨tn, rfl⟩ : ∃ k : Nat, t = (k : Int) := ⟨t.toNat, by omega⟩
            have HFL : ∀ q, q ≤ L.length → ((rot L tn q).foldl (fun m x => setR d m x.1 x.2) []).length + 1 < 1000000 := fun q hq => by
              have h1 := fold_le (d := d) (rot L tn q) []
              rw [rot_len] at h1
              simp only [List.length_nil] at h1
              omega
            replace HFL := Lib.hid HFL
            have HN0 : Hid (Mp wr n d ((rot L tn 0).foldl (fun m x => setR d m x.1 x.2) [])) := HN
            go_wp2_with fail
            go_loopw [123] (fun j wr => ∃ q : Nat, q ≤ L.length ∧ j = .int .i64 q ∧ Hid (OP wr w5.heap.size E (.slice av L.length cv) L) ∧ Hid (Mp wr n d ((rot L tn q).foldl (fun m x => setR d m x.1 x.2) [])) ∧ Hid (Below w0.heap.size w0 wr)) (fun j _ => L.length - (intOf j).toNat)
            case atStart => exact ⟨0, by omega, rfl, HO, HN0, HB⟩
            case round =>
              rename_i wr3 _ _ _
              clear HO HM HN HB HN0
              obtain ⟨q, hq, rfl, HO, HN, HB⟩ := hrel
              by_cases hlt : q < L.length
              · obtain ⟨r, hr⟩ : ∃ r, r = (q + tn) % L.length := ⟨_, rfl⟩
                have hrl : r < L.length := by rw [hr]; exact Nat.mod_lt _ (by omega)
                have htm : ((q : Int) + (tn : Int)).tmod (L.length : Int) = (r : Int) := by rw [hr]; rfl
                have hmd : ((q : Int) + (tn : Int)) % (L.length : Int) = (r : Int) := by rw [hr]; rfl
                have hcv : IntKind.i64.wrap (tn : Int) = tn := by simp [IntKind.wrap, IntKind.bits, IntKind.signed]; omega
                have hcv2 : (tn : Int) % 256 = tn := by omega
                have had : IntKind.i64.wrap ((q : Int) + (tn : Int)) = (q : Int) + tn := by simp [IntKind.wrap, IntKind.bits, IntKind.signed]; omega
                have hr0 : IntKind.i64.wrap (r : Int) = r := by simp [IntKind.wrap, IntKind.bits, IntKind.signed]; omega
                have hne : ¬ (L.length : Int) = 0 := by omega
                have hri : (r : Int) < (L.length : Int) := by omega
                have hrn : ¬ (r : Int) < 0 := by omega
                have hqi : (q : Int) < (L.length : Int) := by omega
                have hq60 : (q : Int) ≤ 60 := by omega
                obtain ⟨bo, oo, rfl, c0, c1⟩ := HO.out.r.1.get (Below.refl _ _) r hrl
                obtain ⟨p, hp⟩ : ∃ p, p = L[r] := ⟨_, rfl⟩
                rw [← hp] at c0 c1
                have HRS : Hid ((rot L tn (q + 1)).foldl (fun m x => setR d m x.1 x.2) [] = setR d ((rot L tn q).foldl (fun m x => setR d m x.1 x.2) []) p.1 p.2) := by
                  show _ = _
                  rw [rot_succ, List.foldl_append, ← hr, List.getD_eq_getElem?_getD, List.getElem?_eq_getElem hrl, hp]
                  rfl
                have HML := Lib.hid (HFL.out q hq)
                clear hp hr
                obtain ⟨p0, p1⟩ := p
                simp only at c0 c1
                generalize (rot L tn q).foldl (fun m x => setR d m x.1 x.2) [] = M at *
                have HC := Lib.hid (set_yes n d M p0 p1 _ HML.out (HN.out.keep (bel_box wr (.cells #[.int .i64 p0, .string p1] E))))
                go_wp2_with fail
                refine HC.out.mono ?_
                rintro e w9 ⟨rfl, hm, hg⟩
                have HN5 := Lib.hid hm
                have HO5 := Lib.hid ((HO.out.below (bel_box wr (.cells #[.int .i64 p0, .string p1] E))).keep hg (.inr fun e => by have := (HO.out.lt n e).1; have := HNB.out; omega))
                have HB5 := Lib.hid (below_gb (HB.out.alloc HB.out.size (.cells #[.int .i64 p0, .string p1] E)) hg (Nat.le_trans HB.out.size (bel_box wr (.cells #[.int .i64 p0, .string p1] E)).size) HGN.out.2.2)
                clear hm hg HC HO HN HB
                go_wp2_with fail
                go_roundw
                case rel => exact ⟨q + 1, by omega, by go_num, HO5, by rw [HRS.out]; exact HN5, HB5⟩
                case measure => simp [intOf]; omega
              · obtain rfl : q = L.length := by omega
                have hqi : ¬ (L.length : Int) < (L.length : Int) := by omega
                rw [rot_set HSr.out tn] at HN
                have HC := Lib.hid (All_yes n d L wr HN.out)
                go_wp2_with fail
                refine HC.out.mono ?_
                rintro e w9 ⟨b3, b4, T2, z2, rfl, c1, c2, hT, hL, hl, hz0, hz1, hb⟩
                have HP := Lib.hid (pairs_it 100 c1 c2 hT hL hl hz0 hz1 (by decide))
                replace HO := Lib.hid (HO.out.below hb)
                replace HB := Lib.hid (bel_tr HB.out hb)
                clear c1 c2 hT hL hl hz0 hz1 hb HC
                go_wp2_with fail
                refine HP.out.mono ?_
                rintro e w10 ⟨v, rfl, ho, hb⟩
                rw [show L.take ((100 : Int).toNat) = L from List.take_of_length_le (by simp; omega)] at ho
                obtain ⟨aw, cw, rfl, -⟩ := ho.row
                replace HO := Lib.hid (HO.out.below hb)
                replace HB := Lib.hid (bel_tr HB.out hb)
                have HSa := Lib.hid (same_ref L aw av cw cv w10 ho.r.1 HO.out.r.1 (by omega))
                clear ho hb HP
                go_wp2_with fail
                refine HSa.out.mono ?_
                rintro e w11 ⟨rfl, hb⟩
                replace HB := Lib.hid (bel_tr HB.out hb)
                have HK := Lib.hid (known_any w11)
                clear hb HSa
                go_wp2_with fail
                refine HK.out.mono ?_
                rintro e w12 ⟨rfl, hb⟩
                replace HB := Lib.hid (bel_tr HB.out hb)
                clear hb HK
                go_wp2_with fail
                go_ret
                exact ⟨rfl, HB.out⟩
end Go.Proofs.Ytfbkbcioceiaeaa.J
