/-
  OmapStrings.
-/
import Derived.Test.YtmmcnpcijeahcaaTEnd
namespace Go.Proofs.Ytmmcnpcijeahcaa.Jt
set_option linter.unusedVariables false
open Go.RowKit V Go.Shelf
attribute [local irreducible] Sch.heldN Sch.stepV Sch.stepE
attribute [local go_sem] Oper.semAt_some

theorem ret_bool {fid : Func} {w : World} {b : Nat} {bb : Bool} (hf : fid.results = #[.cell 2 4]) (h : J.Bx w b (.bool bb) 4) {tmps : Array Value} (h4 : tmps.getD 2 undef = .pointer (some ⟨b, 0, none⟩)) :
    (results fid tmps).run Try.prog w = .ok (.bool bb) w := by
  have k0 := h.cell
  rw [results_cell1 hf, h4]
  go_simp

set_option maxRecDepth 100000 in
set_option maxHeartbeats 8000000 in
theorem strings_law (l : List ByteArray) (a : Option Addr) (c : Nat) (w : World) (hx : J.RowS w a l) (hl : l.length ≤ 9223372036854775807) (hsz : ∀ x ∈ l, x.size ≤ 9223372036854775807) :
    Calls Try.prog 5 #[.slice a l.length c] w fun e w' => e = .returned (.bool true) ∧ Below w.heap.size w w' := by
  have HX := Lib.hid hx
  have HSZ := Lib.hid hsz
  have hli : (l.length : Int) ≤ 9223372036854775807 := by omega
  have hmm := @run_makeMap Try.prog
  have HB0 := J.bel_box w (.cells #[.bool false] 4)
  have HR0 := J.bx_new w (.bool false) 4
  have HB := Lib.hid HB0
  have HR := Lib.hid HR0
  clear hx hl hsz HB0 HR0
  refine (callsIn_wide (n := 3)).1 ?_
  refine callsIn_of_wp_marks Try.func5 rfl trivial ?_ rfl
  simp only [Try.ntmps5, List.size_toArray, List.length_cons, List.length_nil, Nat.reduceAdd, Nat.reduceSub, Array.replicate_succ, Array.replicate_zero, List.push_toArray, List.append_toArray, List.nil_append, List.cons_append]
  refine wpIn_wide.2 ?_
  refine wp_hide fun Q' HQ' => ?_
  have HKn := Lib.hid (fun W => J.known_any W)
  by_cases hl40 : 40 < (l.length : Int)
  · go_wp2_with fail
    refine (HKn.out _).mono ?_
    rintro e w1 ⟨rfl, hb⟩
    replace HR := Lib.hid (HR.out.keep hb)
    replace HB := Lib.hid (J.bel_tr HB.out hb)
    clear hb
    have v0 := HR.out.cell
    have v1 := HR.out.free
    go_wp2_with fail
    (try simp only [Exit.inBlock, Exit.then])
    refine HQ'.out _ _ _ ?_
    refine retM (v := .bool true) (ret_bool rfl (HR.out.set (.bool true)) rfl) rfl ?_
    exact ⟨rfl, below_gb HB.out (gb_setCell _ _ _ _) HB.out.size (Nat.le_refl _)⟩
  · have HN := Lib.hid (new_yes true (w.alloc (.cells #[.bool false] 4)))
    rw [show fnOf true = 25 from rfl] at HN
    go_wp2_with fail
    refine HN.out.mono ?_
    rintro e w1 ⟨g, rfl, hg, hm, hb⟩
    replace HR := Lib.hid (HR.out.keep hb)
    replace HB := Lib.hid (J.bel_tr HB.out hb)
    have HM := Lib.hid hm
    have HG : Hid (w.heap.size ≤ g) := by have := (J.bel_box w (.cells #[.bool false] 4)).size; show _ ≤ _; omega
    clear hg hm hb HN
    go_wp2_with fail
    have HGs := Lib.hid (Gs.start HR.out HB.out HM.out HG.out)
    clear HR HB HM HG
    generalize w1.heap.size + 1 + 1 + 1 = bC at *
    generalize w1.heap.size + 1 + 1 = mC at *
    generalize w1.heap.size + 1 = bF at *
    generalize w1.heap.size = mF at *
    generalize ((((w1.alloc (.map #[] 0)).alloc (.cells #[.map (some mF)] 57)).alloc (.map #[] 0)).alloc (.cells #[.map (some mC)] 58)) = w5 at *
    go_loopw [25] (fun j wr => ∃ (q n : Nat) (L : List Pr) (D1 D2 : DataW Unit), q ≤ l.length ∧ j = .int .i64 q ∧ Hid (Gs ⟨w, w.heap.size, g, mF, bF, mC, bC, true⟩ n L D1 D2 wr) ∧ Hid (Cs L D1 D2) ∧ Hid (∀ x ∈ L, x.2.n ≤ q) ∧ L.length ≤ q ∧ n ≤ 2 * q) (fun j _ => l.length - (intOf j).toNat)
    case atStart => exact ⟨0, 0, [], .map [], .map [], by omega, rfl, HGs, Cs.start, (by show ∀ x ∈ _, _; simp), by simp, by omega⟩
    case round =>
      clear HGs
      obtain ⟨q, n, L, D1, D2, hq, rfl, HGs, HCs, HVl, hLq, hnq⟩ := hrel
      by_cases hlt : q < l.length
      · obtain ⟨s, hs⟩ : ∃ s, s = l[q] := ⟨_, rfl⟩
        have hsl : s.size ≤ 9223372036854775807 := by rw [hs]; exact HSZ.out _ (List.getElem_mem hlt)
        have hsi : (s.size : Int) ≤ 9223372036854775807 := by omega
        have HBw : Hid (Below w.heap.size w wr) := HGs.out.2.2.2.2.2.2.2.1
        obtain ⟨b, o, ha, hc0⟩ : ∃ b o, a = some ⟨b, o, none⟩ ∧ wr.cell? ⟨b, o + q, none⟩ = some (.string s) := by
          rcases HX.out.keepB HBw.out (Nat.le_refl _) with h | ⟨b, o, e, h⟩
          · rw [h] at hlt; simp at hlt
          · exact ⟨b, o, e, by rw [hs]; exact h q hlt⟩
        subst ha
        clear hs
        have hqi : (q : Int) < (l.length : Int) := by omega
        have hq40 : (q : Int) ≤ 40 := by omega
        by_cases h100 : 100 < (s.size : Int)
        · go_wp2_with fail
          refine (HKn.out _).mono ?_
          rintro e w6 ⟨rfl, hb⟩
          replace HGs := Lib.hid (HGs.out.keep hb)
          clear hb
          have HR : Hid (J.Bx w6 w.heap.size (.bool false) 4) := HGs.out.2.2.2.2.1
          have HB : Hid (Below w.heap.size w w6) := HGs.out.2.2.2.2.2.2.2.1
          have v0 := HR.out.cell
          have v1 := HR.out.free
          go_wp2_with fail
          (try simp only [Exit.inBlock, Exit.then])
          refine HQ'.out _ _ _ ?_
          refine retM (v := .bool true) (ret_bool rfl (HR.out.set (.bool true)) rfl) rfl ?_
          exact ⟨rfl, below_gb HB.out (gb_setCell _ _ _ _) HB.out.size (Nat.le_refl _)⟩
        · obtain ⟨k, rfl⟩ : ∃ k : Ky, k.s = s := ⟨⟨s, by omega⟩, rfl⟩
          have hks : (k.s.size : Int) ≤ 100 := by omega
          go_wp2_with fail
          have HC := Lib.hid (get_yes g true L k wr HGs.out.1)
          have HSr : Hid (Srt true L) := by obtain ⟨_, _, _, _, _, _, h, _⟩ := HGs.out.1; exact h
          clear hsl hsi hc0 HBw
          rcases hF : find true L k with _ | p0
          · rw [show getR true L k = (⟨none, 0, 0⟩, false) by rw [getR_find, hF]] at HC
            refine HC.out.mono ?_
            rintro e w6 ⟨rfl, hb⟩
            replace HGs := Lib.hid (HGs.out.keep hb)
            clear hb HC
            obtain ⟨zs, hzs⟩ : ∃ zs : List Int, zs = [] := ⟨_, rfl⟩
            have HZs := Lib.hid hzs
            have HZl : Hid (zs.length = 0) := by rw [hzs]; rfl
            have HZq : Hid (zs.length ≤ q) := by rw [hzs]; exact Nat.zero_le _
            clear hzs
            have lk : ∀ W n', Cm W mC n' D2 → (Instr.lookup 58 (.map (some mC)) (.int .i64 (k.s.size : Int)) false).run Try.prog W = .ok (.int .i64 0) W := fun W n' h => Cm.look h (by omega) (HCs.out.none HSr.out hF)
            have HLk := Lib.hid lk
            clear lk
            have kC := HGs.out.2.2.2.2.2.2.1.cell
            simp only at kC
            have lk6 := HLk.out _ _ HGs.out.2.2.2.1
            obtain ⟨m', hm'⟩ : ∃ m', m' = zs ++ [(q : Int)] := ⟨_, rfl⟩
            have HMm := Lib.hid hm'
            have HMl : Hid (m'.length = zs.length + 1) := by rw [hm']; show _ = _; simp
            clear hm'
            have hzl := HZl.out
            have hz40 : zs.length ≤ 40 := by omega
            clear hzl
            go_wp2_with (first
              | (at_builtin
                 refine wpList_appIo rfl (.const (.slice none 0 0)) (.tmp 58) 55 rfl Try.underlying55 infoI _ [] rfl (G.OI.nil w6 w6.heap.size _ _) none 0 0 [] rfl rfl (.inl rfl) (fun _ => rfl) (by simp <;> omega) (by omega) (Nat.le_refl _) ?_
                 intro v1 W1 ho1 hg1
                 rw [show ([] : List Int) ++ [] = zs from HZs.out.symm] at ho1
                 have hb1 := bel_none hg1
                 have HG1 := Lib.hid (HGs.out.keep hb1)
                 have HO1 := Lib.hid (ho1.below (J.bel_box W1 (.cells #[.int .i64 (q : Int)] 3)))
                 have HB1 := Lib.hid hb1
                 have hs1 : w6.heap.size ≤ W1.heap.size := hb1.size
                 clear ho1 hg1 hb1)
              | (at_builtin
                 refine G.wpList_appI rfl (.tmp 59) (.tmp 61) 55 rfl Try.underlying55 infoI _ zs rfl HO1.out W1.heap.size 0 1 1 [(q : Int)] rfl rfl (G.RowI.lit .i64 W1 _ rfl [(q : Int)] _ _ rfl) (by simp <;> omega) (by omega) (by simp <;> omega) ?_
                 intro v2 W2 ho2 hg2 hgr2
                 rw [← HMm.out] at ho2
                 have hb2 : Below w6.heap.size w6 W2 := bel_low (J.bel_tr HB1.out (J.bel_box W1 (.cells #[.int .i64 (q : Int)] 3))) hg2 (fun x hx => (HO1.out.lt x hx).1)
                 have HG2 := Lib.hid (HGs.out.keep hb2)
                 obtain ⟨a2, c2, rfl, hr2, hn2, hc2, hx2⟩ := ho2.row2
                 have hvr : Vr W2 ⟨a2, m'.length, c2⟩ := by
                   rcases a2 with _ | x
                   · have := (hn2 rfl).2
                     have h2 := HMl.out
                     rw [this] at h2
                     simp at h2
                   · obtain ⟨e1, -⟩ := hx2 x rfl
                     rw [e1] at hr2 ⊢
                     exact ⟨_, m', rfl, rfl, by have := HMl.out; show 1 ≤ m'.length; omega, hr2⟩
                 have HVr := Lib.hid hvr
                 clear ho2 hg2 hgr2 hb2 hr2 hn2 hc2 hx2 hvr))
            have HSet := Lib.hid (set_yes g true L k ⟨a2, m'.length, c2⟩ W2 (by omega) HG2.out.1)
            refine HSet.out.mono ?_
            rintro e W3 ⟨rfl, hm3, hg3⟩
            have HG3 := Lib.hid (HG2.out.set hm3 hg3 (vals_rows HSr.out HG2.out.2.1 HVr.out))
            clear hm3 hg3 HSet HG1 HO1 HB1 HG2 kC lk6 HGs
            have kC := HG3.out.2.2.2.2.2.2.1.cell
            have kF := HG3.out.2.2.2.2.2.1.cell
            simp only at kC kF
            have lk3 := HLk.out _ _ HG3.out.2.2.2.1
            have HI1 := Lib.hid (World.ownsMap.isMap HG3.out.2.2.1)
            have HT2 := Lib.hid (World.ownsMap.tidy HG3.out.2.2.2.1 lawI)
            go_wp2_with (first
              | (at_mapUpdate
                 refine wpList_mapUpdate_own _ rfl _ _ _ 57 rfl 3 9 lawI Try.underlying57 _ mF n D1 rfl HG3.out.2.2.1 (by unfold maxLen; omega) _ _ (kl k.s.size) rfl rfl (kl_of (by omega)) (ls k.s) [] (plainElem_string Try.underlying9 (by unfold maxLen; omega)) ?_
                 intro W4 hf4 hg4
                 have HG4 := Lib.hid (HG3.out.put1 hf4 hg4)
                 have kC4 := HG4.out.2.2.2.2.2.2.1.cell
                 simp only at kC4
                 have lk4 := HLk.out _ _ HG4.out.2.2.2.1
                 clear hf4 hg4 kC kF lk3)
              | (at_mapUpdate
                 refine wpList_mapUpdate_own _ rfl _ _ _ 58 rfl 3 3 lawI Try.underlying58 _ mC (n + 1) D2 rfl HG4.out.2.2.2.1 (by unfold maxLen; omega) _ _ (kl k.s.size) rfl rfl (kl_of (by omega)) _ [] (plainElem_int Try.underlying3 (WalkArith.wf_i64 (by omega))) ?_
                 intro W5 hf5 hg5
                 have HG5 := Lib.hid (HG4.out.put2 hf5 hg5)
                 clear hf5 hg5 kC4 lk4))
            go_roundw
            case rel => exact ⟨q + 1, _, setR true L k ⟨a2, m'.length, c2⟩, _, _, by omega, by go_num, HG5, HCs.out.new HSr.out hF HI1.out HT2.out (by have := HMl.out; have := HZl.out; show m'.length = 1; omega), vals_le HSr.out HVl.out (by have := HMl.out; have := HZq.out; show m'.length ≤ q + 1; omega), Nat.le_trans (setR_len _ HSr.out) (by omega), by omega⟩
            case measure => simp [intOf]; omega
          · obtain ⟨k0, a0, n0, c0⟩ := p0
            rw [show getR true L k = (⟨a0, n0, c0⟩, true) by rw [getR_find, hF]] at HC
            have hmem : (k0, (⟨a0, n0, c0⟩ : Sl)) ∈ L := by obtain ⟨h1, h2, h3⟩ := find_some hF; rw [← h2]; exact List.getElem_mem h1
            refine HC.out.mono ?_
            rintro e w6 ⟨rfl, hb⟩
            replace HGs := Lib.hid (HGs.out.keep hb)
            clear hb HC
            obtain ⟨b5, zs, ha5, hz5, h15, hr5⟩ := HGs.out.2.1 _ hmem
            simp only at ha5 hz5 h15
            subst ha5 hz5
            have HR5 := Lib.hid hr5
            have hzp : (0 : Int) < (zs.length : Int) := by omega
            have hzq : zs.length ≤ 40 := by have h2 := HVl.out _ hmem; simp only at h2; omega
            have HZq : Hid (zs.length ≤ q) := HVl.out _ hmem
            have hzn : ((zs.length : Int) == 0) = false := by rw [beq_eq_false_iff_ne]; omega
            have lk : ∀ W n', Cm W mC n' D2 → (Instr.lookup 58 (.map (some mC)) (.int .i64 (k.s.size : Int)) false).run Try.prog W = .ok (.int .i64 (zs.length : Int)) W := fun W n' h => Cm.look h (by omega) (HCs.out.some HSr.out hF).1
            clear hr5 hmem
            have HLk := Lib.hid lk
            clear lk
            have kC := HGs.out.2.2.2.2.2.2.1.cell
            simp only at kC
            have lk6 := HLk.out _ _ HGs.out.2.2.2.1
            obtain ⟨m', hm'⟩ : ∃ m', m' = zs ++ [(q : Int)] := ⟨_, rfl⟩
            have HMm := Lib.hid hm'
            have HMl : Hid (m'.length = zs.length + 1) := by rw [hm']; show _ = _; simp
            clear hm'
            have hz40 : zs.length ≤ 40 := by omega
            go_wp2_with (first
              | (at_builtin
                 refine wpList_appIo rfl (.const (.slice none 0 0)) (.tmp 58) 55 rfl Try.underlying55 infoI _ [] rfl (G.OI.nil w6 w6.heap.size _ _) (some ⟨b5, 0, none⟩) c0 zs.length zs rfl rfl HR5.out (fun h => by cases h) (by simp <;> omega) (by omega) (Nat.le_refl _) ?_
                 intro v1 W1 ho1 hg1
                 rw [List.nil_append] at ho1
                 have hb1 := bel_none hg1
                 have HG1 := Lib.hid (HGs.out.keep hb1)
                 have HO1 := Lib.hid (ho1.below (J.bel_box W1 (.cells #[.int .i64 (q : Int)] 3)))
                 have HB1 := Lib.hid hb1
                 have hs1 : w6.heap.size ≤ W1.heap.size := hb1.size
                 clear ho1 hg1 hb1)
              | (at_builtin
                 refine G.wpList_appI rfl (.tmp 59) (.tmp 61) 55 rfl Try.underlying55 infoI _ zs rfl HO1.out W1.heap.size 0 1 1 [(q : Int)] rfl rfl (G.RowI.lit .i64 W1 _ rfl [(q : Int)] _ _ rfl) (by simp <;> omega) (by omega) (by simp <;> omega) ?_
                 intro v2 W2 ho2 hg2 hgr2
                 rw [← HMm.out] at ho2
                 have hb2 : Below w6.heap.size w6 W2 := bel_low (J.bel_tr HB1.out (J.bel_box W1 (.cells #[.int .i64 (q : Int)] 3))) hg2 (fun x hx => (HO1.out.lt x hx).1)
                 have HG2 := Lib.hid (HGs.out.keep hb2)
                 obtain ⟨a2, c2, rfl, hr2, hn2, hc2, hx2⟩ := ho2.row2
                 have hvr : Vr W2 ⟨a2, m'.length, c2⟩ := by
                   rcases a2 with _ | x
                   · have := (hn2 rfl).2
                     have h2 := HMl.out
                     rw [this] at h2
                     simp at h2
                   · obtain ⟨e1, -⟩ := hx2 x rfl
                     rw [e1] at hr2 ⊢
                     exact ⟨_, m', rfl, rfl, by have := HMl.out; show 1 ≤ m'.length; omega, hr2⟩
                 have HVr := Lib.hid hvr
                 clear ho2 hg2 hgr2 hb2 hr2 hn2 hc2 hx2 hvr))
            have HSet := Lib.hid (set_yes g true L k ⟨a2, m'.length, c2⟩ W2 (by omega) HG2.out.1)
            refine HSet.out.mono ?_
            rintro e W3 ⟨rfl, hm3, hg3⟩
            have HG3 := Lib.hid (HG2.out.set hm3 hg3 (vals_rows HSr.out HG2.out.2.1 HVr.out))
            clear hm3 hg3 HSet HG1 HO1 HB1 HG2 kC lk6 HGs
            have kC := HG3.out.2.2.2.2.2.2.1.cell
            have kF := HG3.out.2.2.2.2.2.1.cell
            simp only at kC kF
            have lk3 := HLk.out _ _ HG3.out.2.2.2.1
            have HI1 := Lib.hid (World.ownsMap.isMap HG3.out.2.2.1)
            have HT2 := Lib.hid (World.ownsMap.tidy HG3.out.2.2.2.1 lawI)
            go_wp2_with (at_mapUpdate
                         refine wpList_mapUpdate_own _ rfl _ _ _ 58 rfl 3 3 lawI Try.underlying58 _ mC n D2 rfl HG3.out.2.2.2.1 (by unfold maxLen; omega) _ _ (kl k.s.size) rfl rfl (kl_of (by omega)) _ [] (plainElem_int Try.underlying3 (WalkArith.wf_i64 (by omega))) ?_
                         intro W5 hf5 hg5
                         have HG5 := Lib.hid (HG3.out.put2 hf5 hg5)
                         clear hf5 hg5 kC kF lk3)
            go_roundw
            case rel => exact ⟨q + 1, _, setR true L k ⟨a2, m'.length, c2⟩, _, _, by omega, by go_num, HG5, HCs.out.old HSr.out hF HT2.out HMl.out, vals_le HSr.out HVl.out (by have := HMl.out; have := HZq.out; show m'.length ≤ q + 1; omega), Nat.le_trans (setR_len _ HSr.out) (by omega), by omega⟩
            case measure => simp [intOf]; omega
      · obtain rfl : q = l.length := by omega
        have hqi : ¬ (l.length : Int) < (l.length : Int) := by omega
        have hL40 : L.length ≤ 40 := by omega
        have hbn := J.bel_box wr (.cells #[.int .i64 (-1)] 3)
        have HXn := Lib.hid (J.bx_new wr (.int .i64 (-1)) 3)
        have HWl : Hid (w.heap.size ≤ wr.heap.size) := HGs.out.2.2.2.2.2.2.2.1.size
        replace HGs := Lib.hid (HGs.out.keep hbn)
        have HA := Lib.hid (All_yes g true L _ HGs.out.1)
        have HSr : Hid (Srt true L) := by obtain ⟨_, _, _, _, _, _, h, _⟩ := HGs.out.1; exact h
        clear hbn
        go_wp2_with fail
        generalize wr.alloc (.cells #[.int .i64 (-1)] 3) = wa at *
        generalize wr.heap.size = bn at *
        refine HA.out.mono ?_
        rintro e wS ⟨b1, b2, T, z, rfl, c1, c2, hT, hLs, hlz, hz0, hz1, hb⟩
        replace HGs := Lib.hid (HGs.out.keep hb)
        replace HXn := Lib.hid (HXn.out.keep hb)
        have HT := Lib.hid hT
        have HC1 := Lib.hid c1
        have HC2 := Lib.hid c2
        have HJ : Hid (T.list.drop z.toNat = L ∧ T.len ≤ 1000000 ∧ 0 ≤ z ∧ z ≤ 1000000) := ⟨hLs, hlz, hz0, hz1⟩
        have hq1 := seq_nil 75 #[.pointer (some ⟨b1, 0, none⟩), .pointer (some ⟨b2, 0, none⟩)]
        clear hT hLs hlz hz0 hz1 hb HA c1 c2
        go_wp2_with fail
        have hbl := HXn.out.lt
        have hI0 : Iv wS bn [] wS := ⟨gb_refl _ _, HXn.out⟩
        refine (wpIn_wide (n := 3)).1 ?_
        refine range_own (by decide) rfl enters_from rfl L (fun A => T.In A) (by have h := HJ.out.1; rw [← h]; exact from_seq _ T z wS b1 b2 rfl HJ.out.2.1 (by have := HJ.out.2; omega) (by have := HJ.out.2; omega) HC1.out HC2.out) (fun pre A => Iv wS bn pre A) (fun c A => False) (fun pre => Iv.abF hbl) (fun c => AbF.const _) (fun pre A h => HT.out.gb h.1 (Tr.on_ne (bx_c4 HXn.out) HT.out)) (fun c A h => h.elim) hI0 ?a1 ?assign ?body ?done ?stop
        case assign =>
          intro l' y A K hK
          gi_wp2
          exact hK
        case stop =>
          intro D c A hD h
          exact h.elim
        case body =>
          rintro l' pre x A ⟨h1, h2⟩ hpre
          have hlast := lastN_lt HSr.out hpre
          have hmem : x ∈ L := hpre.subset (by simp)
          have hla := lastN_app pre x
          obtain ⟨k, v⟩ := x
          simp only at hlast hla
          have HA1 := Lib.hid h1
          have HA2 := Lib.hid h2
          have kF := (HGs.out.2.2.2.2.2.1.gb h1 (by have := ne_of HGs.out.2.2.2.2.2.1.cell HXn.out.cell (by simp); simpa using this)).cell
          have kC := (HGs.out.2.2.2.2.2.2.1.gb h1 (by have := ne_of HGs.out.2.2.2.2.2.2.1.cell HXn.out.cell (by simp); simpa using this)).cell
          have hF : Fm A mF n D1 := World.ownsMap.kept HGs.out.2.2.1 h1 (by have := nb_bx HGs.out.2.2.1.nb HXn.out; simpa using this)
          have hC : Cm A mC n D2 := World.ownsMap.kept HGs.out.2.2.2.1 h1 (by have := nb_bx HGs.out.2.2.2.1.nb HXn.out; simpa using this)
          have hkz : k.s.size ≤ 1000 := k.h
          have hki : (k.s.size : Int) ≤ 1000 := by omega
          have lk1 := hF.look (k := k.s.size) (by omega) (HCs.out.1 _ hmem)
          have lk2 := hC.look (k := k.s.size) (by omega) (HCs.out.2.1 _ hmem).1
          have n0 := h2.cell
          have n1 := h2.free
          simp only at kF kC lk1 lk2
          have hle : ¬ (k.s.size : Int) ≤ lastN pre := by omega
          have HLa := Lib.hid hla
          generalize lastN pre = N at *
          clear h1 h2 hpre hmem hla hF hC hlast hI0
          gi_wp2_with fail
          exact ⟨Kp.gbLow (gb_setCell _ _ _ _) hbl, gb_trans HA1.out (gb_setCell _ _ _ _), by rw [HLa.out]; exact HA2.out.set _⟩
        case done =>
          rintro D A hD ⟨h1, h2⟩ hK
          have hbd : Below A.heap.size A A.drew := (Below.refl _ _).drew
          have n5 := ne_of HGs.out.2.2.2.2.2.2.1.cell HXn.out.cell (by simp)
          have n6 := nb_bx HGs.out.2.2.2.1.nb HXn.out
          have n7 := ne_of HGs.out.2.2.2.2.1.cell HXn.out.cell (by simp)
          simp only at n5 n6 n7
          have KM : Hid (Mp A.drew g true L) := (HGs.out.1.gbx HXn.out h1).keep hbd
          have KS : Hid (Zs bC mC n D2 A.drew) := ⟨(HGs.out.2.2.2.2.2.2.1.gb h1 (by simpa using n5)).keep hbd, World.ownsMap.kept (World.ownsMap.kept HGs.out.2.2.2.1 h1 (by simpa using n6)) (gb_below hbd none) (by simp)⟩
          have KR : Hid (J.Bx A.drew w.heap.size (.bool false) 4) := (HGs.out.2.2.2.2.1.gb h1 (by simpa using n7)).keep hbd
          have KB : Hid (Below w.heap.size w A.drew) := (below_gb HGs.out.2.2.2.2.2.2.2.1 h1 HGs.out.2.2.2.2.2.2.2.1.size HWl.out).drew
          have KD : Hid (A.drew.heap[D]? = some (.deferred (some []))) := hK
          have hwD : w.heap.size ≤ D := by have := HGs.out.2.2.2.2.2.2.2.1.size; simp only at this; omega
          have hBD : w.heap.size ≠ D := by
            have h5 := KR.out
            have h6 := KD.out
            rintro rfl
            unfold J.Bx at h5
            rw [h5] at h6
            cases h6
          have n8 : w.heap.size ≠ bC := by
            have h5 := KR.out.cell
            have h6 := KS.out.1.cell
            exact ne_of h5 h6 (by simp)
          have HLm := Lib.hid (fun w' (h : Zs bC mC n D2 w') => load_mc h.1)
          have HLn := Lib.hid (fun w' (h : Zs bC mC n D2 w') (ty : TypeId) => (lenM h.2 ty).trans (by rw [HCs.out.2.2.2]))
          clear h1 h2 hK hbd n5 n6 n7 hI0
          go_wp2_with fail
          refine Sch.wp_region_tn (Zs bC mC n D2) (.val 0 (.val 2 (.one 1 (.val 3 (.val 4 (.val 5 (.one 6 (.val 7 (.one 8 .done))))))))) (by kernel_rfl) (by kernel_rfl) KS.out ?_
          repeat (first
            | (refine Sch.tn_q rfl rfl rfl (fun K hK => ?_); go_big_quiet_op; (first | refine hK _ ?_ | refine ⟨_, fun _ _ => rfl, hK _ ?_⟩); clear hK K)
            | (refine Sch.tn_chk _ _ _ rfl rfl rfl rfl rfl ?_; simp only [Act.put, List.setIfInBounds_toArray, List.set_cons_zero, List.set_cons_succ])
            | (refine Sch.tn_load _ _ _ _ _ rfl rfl rfl rfl (by first | exact HLm.out) rfl ?_; simp only [Act.put, List.setIfInBounds_toArray, List.set_cons_zero, List.set_cons_succ]))
          generalize A.drew = A1 at *
          have HLe := Lib.hid (len_yes g true L A1 KM.out)
          refine Sch.tn_e rfl rfl (fun K hK => ?_)
          go_wp2_with fail
          refine HLe.out.mono ?_
          rintro e A2 ⟨rfl, hb⟩
          have hDl := (Array.getElem?_eq_some_iff.1 KD.out).1
          replace KM := Lib.hid (KM.out.keep hb)
          replace KS := Lib.hid (KS.out.keep hb)
          replace KR := Lib.hid (KR.out.keep hb)
          replace KB := Lib.hid (J.bel_tr KB.out hb)
          replace KD := Lib.hid ((hb.block D hDl).trans KD.out)
          clear hb hDl HLe
          refine hK _ _ KS.out ?_
          clear hK K
          refine Sch.tn_len _ _ _ _ _ rfl rfl rfl rfl (fun w' h => HLn.out w' h _) rfl ?_
          simp only [Act.put, List.setIfInBounds_toArray, List.set_cons_zero, List.set_cons_succ]
          repeat (first
            | (refine Sch.tn_q rfl rfl rfl (fun K hK => ?_); go_big_quiet_op; (first | refine hK _ ?_ | refine ⟨_, fun _ _ => rfl, hK _ ?_⟩); clear hK K)
            | (refine Sch.tn_chk _ _ _ rfl rfl rfl rfl rfl ?_; simp only [Act.put, List.setIfInBounds_toArray, List.set_cons_zero, List.set_cons_succ])
            | (refine Sch.tn_load _ _ _ _ _ rfl rfl rfl rfl (by first | exact HLm.out) rfl ?_; simp only [Act.put, List.setIfInBounds_toArray, List.set_cons_zero, List.set_cons_succ]))
          have HK2 := Lib.hid (J.known_any A2)
          refine Sch.tn_e rfl rfl (fun K hK => ?_)
          go_wp2_with fail
          refine HK2.out.mono ?_
          rintro e A3 ⟨rfl, hb⟩
          have hDl := (Array.getElem?_eq_some_iff.1 KD.out).1
          replace KM := Lib.hid (KM.out.keep hb)
          replace KS := Lib.hid (KS.out.keep hb)
          replace KR := Lib.hid (KR.out.keep hb)
          replace KB := Lib.hid (J.bel_tr KB.out hb)
          replace KD := Lib.hid ((hb.block D hDl).trans KD.out)
          clear hb hDl HK2
          refine hK _ _ KS.out ?_
          clear hK K
          repeat (first
            | (refine Sch.tn_q rfl rfl rfl (fun K hK => ?_); go_big_quiet_op; (first | refine hK _ ?_ | refine ⟨_, fun _ _ => rfl, hK _ ?_⟩); clear hK K)
            | (refine Sch.tn_chk _ _ _ rfl rfl rfl rfl rfl ?_; simp only [Act.put, List.setIfInBounds_toArray, List.set_cons_zero, List.set_cons_succ])
            | (refine Sch.tn_load _ _ _ _ _ rfl rfl rfl rfl (by first | exact HLm.out) rfl ?_; simp only [Act.put, List.setIfInBounds_toArray, List.set_cons_zero, List.set_cons_succ]))
          have v0 := KR.out.cell
          have v1 := KR.out.free
          refine Sch.tn_e rfl rfl (fun K hK => ?_)
          go_wp2_with fail
          have hs := gb_setCell A3 w.heap.size 0 (.bool true)
          have n9 : mC ≠ w.heap.size := nb_bx KS.out.2.nb KR.out
          have ZS : Hid (Zs bC mC n D2 (A3.setCell ⟨w.heap.size, 0, none⟩ (.bool true))) := ⟨KS.out.1.gb hs (by simpa using n8.symm), World.ownsMap.kept KS.out.2 hs (by simpa using n9)⟩
          have ZR := Lib.hid (KR.out.set (.bool true))
          have ZB := Lib.hid (below_gb KB.out hs KB.out.size (Nat.le_refl _))
          have ZD : Hid ((A3.setCell ⟨w.heap.size, 0, none⟩ (.bool true)).heap[D]? = some (.deferred (some []))) := (hs.block D (Array.getElem?_eq_some_iff.1 KD.out).1 (by simpa using hBD.symm)).trans KD.out
          clear v0 v1 hs n8 n9 KS KR KB KD KM
          generalize A3.setCell ⟨w.heap.size, 0, none⟩ (.bool true) = A9 at *
          refine hK _ _ ZS.out ?_
          clear hK K
          refine Sch.tn_n ?_
          go_wp2_with fail
          (try simp only [Exit.inBlock, Exit.then])
          refine HQ'.out _ _ _ ?_
          have hp := grownBy_putObj' A9 D (.deferred none)
          exact retM1 (v := .bool true) rfl ZD.out (ret_bool rfl (ZR.out.gb hp (by simpa using hBD)) rfl) ⟨rfl, below_gb ZB.out hp ZB.out.size hwD⟩
end Go.Proofs.Ytmmcnpcijeahcaa.Jt
