/-
  The theorem of the layer.
-/
import Derived.Test.YtfemfmppjabdjaaDoorELMerges
namespace Go.Proofs.YtfemfmppjabdjaaDoor.E
set_option linter.unusedVariables false
open Go.RowKit V Go.Sort D

theorem vecs_len {v : List Dt} (h : validV v = true) : v.length ≤ 64 := vd_len ((valid_vd v).1 h)
set_option maxRecDepth 100000 in
set_option maxHeartbeats 16000000 in
theorem holds_law (xs ys zs : List Dt) (a b c : Option Addr) (p q r : Nat) (d : Dt) (w : World) (hL : Ld w) (hx : RowD w a xs) (hy : RowD w b ys) (hz : RowD w c zs) (hna : a = none → p = 0) (hnb : b = none → q = 0) (hnc : c = none → r = 0) (hlc : xs.length ≤ p)
    (hlx : xs.length ≤ 9223372036854775807) (hly : ys.length ≤ 9223372036854775807) (hlz : zs.length ≤ 9223372036854775807) :
    Calls Tryd.prog 7 #[.slice a xs.length p, .slice b ys.length q, .slice c zs.length r, dv d] w fun e w' => e = .returned (.bool true) ∧ Below w.heap.size w w' := by
  have HLd := Lib.hid hL
  have HRa := Lib.hid hx
  have HRb := Lib.hid hy
  have HRc := Lib.hid hz
  have HNa := Lib.hid hna
  have HNb := Lib.hid hnb
  have HNc := Lib.hid hnc
  have HLc := Lib.hid hlc
  have HKn := Lib.hid (fun w hL => known_any w hL)
  have hK0 : K1 w.heap.size d (w.alloc (Obj.cells #[.int .i64 d.1, .int .i64 d.2] 25)) := by refine ⟨?_, ?_⟩ <;> go_simp
  have HB := Lib.hid (bel_box w (Obj.cells #[.int .i64 d.1, .int .i64 d.2] 25))
  have HK := Lib.hid hK0
  replace HRa := Lib.hid (HRa.out.keep HB.out)
  replace HRb := Lib.hid (HRb.out.keep HB.out)
  replace HRc := Lib.hid (HRc.out.keep HB.out)
  clear hL hx hy hz hna hnb hnc hlc hK0
  by_cases h1 : 40 < xs.length
  · have hg : (40 : Int) < (xs.length : Int) := by omega
    clear h1 hlx hly hlz
    obtain ⟨d1, d2⟩ := d
    go_enter Tryd.func7, Tryd.ntmps7
    go_wp2_with fail
    refine (HKn.out _ (HLd.out.below HB.out)).mono ?_
    rintro e w2 ⟨rfl, hb⟩
    replace HB := bel_tr HB hb
    clear hb
    go_wp2_with fail
    go_ret
    exact ⟨rfl, HB.out⟩
  have hg : ¬ (40 : Int) < (xs.length : Int) := by omega
  by_cases h2 : 40 < ys.length
  · have hg2 : (40 : Int) < (ys.length : Int) := by omega
    clear h1 hlx hly h2 hlz
    obtain ⟨d1, d2⟩ := d
    go_enter Tryd.func7, Tryd.ntmps7
    go_wp2_with fail
    refine (HKn.out _ (HLd.out.below HB.out)).mono ?_
    rintro e w2 ⟨rfl, hb⟩
    replace HB := bel_tr HB hb
    clear hb
    go_wp2_with fail
    go_ret
    exact ⟨rfl, HB.out⟩
  have hg2 : ¬ (40 : Int) < (ys.length : Int) := by omega
  by_cases h3 : 40 < zs.length
  · have hg3 : (40 : Int) < (zs.length : Int) := by omega
    clear h1 hlx hly h2 hlz h3
    obtain ⟨d1, d2⟩ := d
    go_enter Tryd.func7, Tryd.ntmps7
    go_wp2_with fail
    refine (HKn.out _ (HLd.out.below HB.out)).mono ?_
    rintro e w2 ⟨rfl, hb⟩
    replace HB := bel_tr HB hb
    clear hb
    go_wp2_with fail
    go_ret
    exact ⟨rfl, HB.out⟩
  have hg3 : ¬ (40 : Int) < (zs.length : Int) := by omega
  have HVx := Lib.hid (fun w hx => validV_any xs a p w hx (by omega))
  have HVy := Lib.hid (fun w hx => validV_any ys b q w hx (by omega))
  have HVz := Lib.hid (fun w hx => validV_any zs c r w hx (by omega))
  have HX : Hid (xs.length ≤ 40) := by show _ ≤ _; omega
  have HY : Hid (ys.length ≤ 40) := by show _ ≤ _; omega
  have HZ : Hid (zs.length ≤ 40) := by show _ ≤ _; omega
  clear h1 h2 h3 hlx hly hlz
  rcases v1 : validV xs with _ | _
  · rw [v1] at HVx
    clear v1
    go_enter Tryd.func7, Tryd.ntmps7
    obtain ⟨d1, d2⟩ := d
    go_wp2_with fail
    refine (HVx.out _ HRa.out).mono ?_
    rintro e w2 ⟨rfl, hl⟩
    have hb := hl.bel
    clear hl
    replace HRa := Lib.hid (HRa.out.keep hb)
    replace HRb := Lib.hid (HRb.out.keep hb)
    replace HRc := Lib.hid (HRc.out.keep hb)
    replace HK := Lib.hid (HK.out.keep hb)
    replace HB := bel_tr HB hb
    clear hb
    go_wp2_with fail
    refine (HKn.out _ (HLd.out.below HB.out)).mono ?_
    rintro e w3 ⟨rfl, hb⟩
    replace HRa := Lib.hid (HRa.out.keep hb)
    replace HRb := Lib.hid (HRb.out.keep hb)
    replace HRc := Lib.hid (HRc.out.keep hb)
    replace HK := Lib.hid (HK.out.keep hb)
    replace HB := bel_tr HB hb
    clear hb
    go_wp2_with fail
    go_ret
    exact ⟨rfl, HB.out⟩
  rw [v1] at HVx
  rcases v2 : validV ys with _ | _
  · rw [v2] at HVy
    clear v1 v2
    go_enter Tryd.func7, Tryd.ntmps7
    obtain ⟨d1, d2⟩ := d
    go_wp2_with fail
    refine (HVx.out _ HRa.out).mono ?_
    rintro e w2 ⟨rfl, hl⟩
    have hb := hl.bel
    clear hl
    replace HRa := Lib.hid (HRa.out.keep hb)
    replace HRb := Lib.hid (HRb.out.keep hb)
    replace HRc := Lib.hid (HRc.out.keep hb)
    replace HK := Lib.hid (HK.out.keep hb)
    replace HB := bel_tr HB hb
    clear hb
    go_wp2_with fail
    refine (HVy.out _ HRb.out).mono ?_
    rintro e w3 ⟨rfl, hl⟩
    have hb := hl.bel
    clear hl
    replace HRa := Lib.hid (HRa.out.keep hb)
    replace HRb := Lib.hid (HRb.out.keep hb)
    replace HRc := Lib.hid (HRc.out.keep hb)
    replace HK := Lib.hid (HK.out.keep hb)
    replace HB := bel_tr HB hb
    clear hb
    go_wp2_with fail
    refine (HKn.out _ (HLd.out.below HB.out)).mono ?_
    rintro e w4 ⟨rfl, hb⟩
    replace HRa := Lib.hid (HRa.out.keep hb)
    replace HRb := Lib.hid (HRb.out.keep hb)
    replace HRc := Lib.hid (HRc.out.keep hb)
    replace HK := Lib.hid (HK.out.keep hb)
    replace HB := bel_tr HB hb
    clear hb
    go_wp2_with fail
    go_ret
    exact ⟨rfl, HB.out⟩
  rw [v2] at HVy
  rcases v3 : validV zs with _ | _
  · rw [v3] at HVz
    clear v1 v2 v3
    go_enter Tryd.func7, Tryd.ntmps7
    obtain ⟨d1, d2⟩ := d
    go_wp2_with fail
    refine (HVx.out _ HRa.out).mono ?_
    rintro e w2 ⟨rfl, hl⟩
    have hb := hl.bel
    clear hl
    replace HRa := Lib.hid (HRa.out.keep hb)
    replace HRb := Lib.hid (HRb.out.keep hb)
    replace HRc := Lib.hid (HRc.out.keep hb)
    replace HK := Lib.hid (HK.out.keep hb)
    replace HB := bel_tr HB hb
    clear hb
    go_wp2_with fail
    refine (HVy.out _ HRb.out).mono ?_
    rintro e w3 ⟨rfl, hl⟩
    have hb := hl.bel
    clear hl
    replace HRa := Lib.hid (HRa.out.keep hb)
    replace HRb := Lib.hid (HRb.out.keep hb)
    replace HRc := Lib.hid (HRc.out.keep hb)
    replace HK := Lib.hid (HK.out.keep hb)
    replace HB := bel_tr HB hb
    clear hb
    go_wp2_with fail
    refine (HVz.out _ HRc.out).mono ?_
    rintro e w4 ⟨rfl, hl⟩
    have hb := hl.bel
    clear hl
    replace HRa := Lib.hid (HRa.out.keep hb)
    replace HRb := Lib.hid (HRb.out.keep hb)
    replace HRc := Lib.hid (HRc.out.keep hb)
    replace HK := Lib.hid (HK.out.keep hb)
    replace HB := bel_tr HB hb
    clear hb
    go_wp2_with fail
    refine (HKn.out _ (HLd.out.below HB.out)).mono ?_
    rintro e w5 ⟨rfl, hb⟩
    replace HRa := Lib.hid (HRa.out.keep hb)
    replace HRb := Lib.hid (HRb.out.keep hb)
    replace HRc := Lib.hid (HRc.out.keep hb)
    replace HK := Lib.hid (HK.out.keep hb)
    replace HB := bel_tr HB hb
    clear hb
    go_wp2_with fail
    go_ret
    exact ⟨rfl, HB.out⟩
  rw [v3] at HVz
  have d1 := (valid_vd xs).1 v1
  have d2 := (valid_vd ys).1 v2
  have d3 := (valid_vd zs).1 v3
  have m1 := merge_vd d1 d2
  have m2 := merge_vd d2 d3
  have V1 := (valid_vd _).2 m1
  have V2 := (valid_vd _).2 m2
  have HM1 := Lib.hid (fun w hx hy => merge_any xs ys a b p q w hx hy HNa.out HNb.out (by have := HX.out; omega) (by have := HY.out; omega))
  rw [mergeB_ok v1 v2] at HM1
  have HM2 := Lib.hid (fun w hx hy => merge_any ys zs b c q r w hx hy HNb.out HNc.out (by have := HY.out; omega) (by have := HZ.out; omega))
  rw [mergeB_ok v2 v3] at HM2
  have HT1 := Lib.hid (fun u w hx hy hu => merged_true ys xs b a q p u (mergeR xs ys) 0 w hx hy HNb.out HNa.out (by have := HY.out; omega) (by have := HX.out; omega) hu (by have := vecs_len V1; omega) (by rw [mergeB_ok v2 v1, merge_comm d2 d1]))
  have HT2 := Lib.hid (fun u w hx hu => merged_true xs xs a a p p u xs 0 w hx hx HNa.out HNa.out (by have := HX.out; omega) (by have := HX.out; omega) hu (by have := HX.out; omega) (by rw [mergeB_ok v1 v1, merge_self d1]))
  have HVm := Lib.hid (fun a c w hx => validV_any (mergeR xs ys) a c w hx (by have := vecs_len V1; omega))
  rw [V1] at HVm
  have HM3 := Lib.hid (fun a p w hx hy hna => merge_any (mergeR xs ys) zs a c p r w hx hy hna HNc.out (by have := vecs_len V1; omega) (by have := HZ.out; omega))
  rw [mergeB_ok V1 v3] at HM3
  have HT3 := Lib.hid (fun b q u w hx hy hnb hu => merged_true xs (mergeR ys zs) a b p q u (mergeR (mergeR xs ys) zs) 0 w hx hy HNa.out hnb (by have := HX.out; omega) (by have := vecs_len V2; omega) hu (by have := vd_len (merge_vd m1 d3); omega) (by rw [mergeB_ok v1 V2, merge_assoc d1 d2 d3]))
  have HOr := Lib.hid (fun b q w hx hy => order_any xs (mergeR xs ys) a b p q w hx hy (by have := HX.out; omega) (by have := vecs_len V1; omega))
  rw [ordR_yes v1 V1] at HOr
  have HSm := Lib.hid (fun b q w hx hy => same_ref xs (mergeR xs ys) a b p q w hx hy (by have := HX.out; omega) (by have := vecs_len V1; omega))
  have HH1 := Lib.hid (fun b q w hx => has_any (mergeR xs ys) d b q w hx (by have := vecs_len V1; omega))
  have HH2 := Lib.hid (fun w hx => has_any xs d a p w hx (by have := HX.out; omega))
  have HH3 := Lib.hid (fun w hx => has_any ys d b q w hx (by have := HY.out; omega))
  rw [has_merge d1 d2] at HH1
  have HTx := Lib.hid (fun w hL hx => text_any5 xs a p w hL hx (by have := HX.out; omega))
  rw [show txtB xs = (txtV xs, 0) by unfold txtB; rw [v1, if_pos rfl]] at HTx
  have HPs := Lib.hid (fun u w hL hu => parses_true (txtV xs) u xs 0 w hL (by have := txtV_len xs d1; have := HX.out; omega) hu (by have := HX.out; omega) (by unfold prsE; rw [prsV_txt d1]))
  have HNn : Hid ((orderR xs (mergeR xs ys) = 0 ∧ decide (xs = mergeR xs ys) = true) ∨ (orderR xs (mergeR xs ys) = -1 ∧ decide (xs = mergeR xs ys) = false)) := by
    rcases order_merge d1 d2 with h | h
    · exact .inl ⟨h, by rw [decide_eq_true_eq]; exact (order_zero d1 m1).1 h⟩
    · refine .inr ⟨h, ?_⟩
      rw [decide_eq_false_iff_not]
      intro e
      have := (order_zero d1 m1).2 e
      omega
  clear v1 v2 v3 d1 d2 d3 m1 m2 V1 V2
  generalize mergeR (mergeR xs ys) zs = M3 at *
  generalize mergeR xs ys = M1 at *
  generalize mergeR ys zs = M2 at *
  generalize decide (xs = M1) = sm at *
  generalize orderR xs M1 = n at *
  generalize hasV xs d = hA at *
  generalize hasV ys d = hB at *
  generalize hTS : (⟨(txtV xs, (0 : Int)).1.toArray⟩ : ByteArray) = TS at *
  have HTS : Hid ((⟨(txtV xs).toArray⟩ : ByteArray) = TS) := hTS
  clear hTS
  try rw [HTS.out] at HPs
  go_enter Tryd.func7, Tryd.ntmps7
  go_wp2_with fail
  refine (HVx.out _ HRa.out).mono ?_
  rintro e w2 ⟨rfl, hl⟩
  have hb := hl.bel
  clear hl
  replace HRa := Lib.hid (HRa.out.keep hb)
  replace HRb := Lib.hid (HRb.out.keep hb)
  replace HRc := Lib.hid (HRc.out.keep hb)
  replace HK := Lib.hid (HK.out.keep hb)
  replace HB := bel_tr HB hb
  clear hb
  go_wp2_with fail
  refine (HVy.out _ HRb.out).mono ?_
  rintro e w3 ⟨rfl, hl⟩
  have hb := hl.bel
  clear hl
  replace HRa := Lib.hid (HRa.out.keep hb)
  replace HRb := Lib.hid (HRb.out.keep hb)
  replace HRc := Lib.hid (HRc.out.keep hb)
  replace HK := Lib.hid (HK.out.keep hb)
  replace HB := bel_tr HB hb
  clear hb
  go_wp2_with fail
  refine (HVz.out _ HRc.out).mono ?_
  rintro e w4 ⟨rfl, hl⟩
  have hb := hl.bel
  clear hl
  replace HRa := Lib.hid (HRa.out.keep hb)
  replace HRb := Lib.hid (HRb.out.keep hb)
  replace HRc := Lib.hid (HRc.out.keep hb)
  replace HK := Lib.hid (HK.out.keep hb)
  replace HB := bel_tr HB hb
  clear hb
  go_wp2_with fail
  refine (HM1.out _ HRa.out HRb.out).mono ?_
  rintro e w5 ⟨v1, rfl, ho, hb⟩
  obtain ⟨a1, c1, rfl, hrx, hnx, hcx, -⟩ := ho.row
  have HR1 := Lib.hid hrx
  have HN1 := Lib.hid (fun h => (hnx h).1)
  have HC1 := Lib.hid hcx
  clear hrx hnx hcx ho
  replace HRa := Lib.hid (HRa.out.keep hb)
  replace HRb := Lib.hid (HRb.out.keep hb)
  replace HRc := Lib.hid (HRc.out.keep hb)
  replace HK := Lib.hid (HK.out.keep hb)
  replace HB := bel_tr HB hb
  clear hb
  go_wp2_with fail
  refine (HM2.out _ HRb.out HRc.out).mono ?_
  rintro e w6 ⟨v2, rfl, ho, hb⟩
  obtain ⟨a2, c2, rfl, hrx, hnx, hcx, -⟩ := ho.row
  have HR2 := Lib.hid hrx
  have HN2 := Lib.hid (fun h => (hnx h).1)
  have HC2 := Lib.hid hcx
  clear hrx hnx hcx ho
  replace HRa := Lib.hid (HRa.out.keep hb)
  replace HRb := Lib.hid (HRb.out.keep hb)
  replace HRc := Lib.hid (HRc.out.keep hb)
  replace HK := Lib.hid (HK.out.keep hb)
  replace HR1 := Lib.hid (HR1.out.keep hb)
  replace HB := bel_tr HB hb
  clear hb
  go_wp2_with fail
  refine (HT1.out _ _ HRb.out HRa.out ⟨a1, c1, rfl, HR1.out, HN1.out, HC1.out⟩).mono ?_
  rintro e w7 ⟨rfl, hb⟩
  replace HRa := Lib.hid (HRa.out.keep hb)
  replace HRb := Lib.hid (HRb.out.keep hb)
  replace HRc := Lib.hid (HRc.out.keep hb)
  replace HK := Lib.hid (HK.out.keep hb)
  replace HR1 := Lib.hid (HR1.out.keep hb)
  replace HR2 := Lib.hid (HR2.out.keep hb)
  replace HB := bel_tr HB hb
  clear hb
  go_wp2_with fail
  refine (HT2.out _ _ HRa.out ⟨a, p, rfl, HRa.out, HNa.out, HLc.out⟩).mono ?_
  rintro e w8 ⟨rfl, hb⟩
  replace HRa := Lib.hid (HRa.out.keep hb)
  replace HRb := Lib.hid (HRb.out.keep hb)
  replace HRc := Lib.hid (HRc.out.keep hb)
  replace HK := Lib.hid (HK.out.keep hb)
  replace HR1 := Lib.hid (HR1.out.keep hb)
  replace HR2 := Lib.hid (HR2.out.keep hb)
  replace HB := bel_tr HB hb
  clear hb
  go_wp2_with fail
  refine (HVm.out a1 c1 _ HR1.out).mono ?_
  rintro e w9 ⟨rfl, hl⟩
  have hb := hl.bel
  clear hl
  replace HRa := Lib.hid (HRa.out.keep hb)
  replace HRb := Lib.hid (HRb.out.keep hb)
  replace HRc := Lib.hid (HRc.out.keep hb)
  replace HK := Lib.hid (HK.out.keep hb)
  replace HR1 := Lib.hid (HR1.out.keep hb)
  replace HR2 := Lib.hid (HR2.out.keep hb)
  replace HB := bel_tr HB hb
  clear hb
  go_wp2_with fail
  refine (HM3.out a1 c1 _ HR1.out HRc.out HN1.out).mono ?_
  rintro e w10 ⟨v3, rfl, ho, hb⟩
  obtain ⟨a3, c3, rfl, hrx, hnx, hcx, -⟩ := ho.row
  have HR3 := Lib.hid hrx
  have HN3 := Lib.hid (fun h => (hnx h).1)
  have HC3 := Lib.hid hcx
  clear hrx hnx hcx ho
  replace HRa := Lib.hid (HRa.out.keep hb)
  replace HRb := Lib.hid (HRb.out.keep hb)
  replace HRc := Lib.hid (HRc.out.keep hb)
  replace HK := Lib.hid (HK.out.keep hb)
  replace HR1 := Lib.hid (HR1.out.keep hb)
  replace HR2 := Lib.hid (HR2.out.keep hb)
  replace HB := bel_tr HB hb
  clear hb
  go_wp2_with fail
  refine (HT3.out a2 c2 _ _ HRa.out HR2.out HN2.out ⟨a3, c3, rfl, HR3.out, HN3.out, HC3.out⟩).mono ?_
  rintro e w11 ⟨rfl, hb⟩
  replace HRa := Lib.hid (HRa.out.keep hb)
  replace HRb := Lib.hid (HRb.out.keep hb)
  replace HRc := Lib.hid (HRc.out.keep hb)
  replace HK := Lib.hid (HK.out.keep hb)
  replace HR1 := Lib.hid (HR1.out.keep hb)
  replace HR2 := Lib.hid (HR2.out.keep hb)
  replace HR3 := Lib.hid (HR3.out.keep hb)
  replace HB := bel_tr HB hb
  clear hb
  go_wp2_with fail
  refine (HOr.out a1 c1 _ HRa.out HR1.out).mono ?_
  rintro e w12 ⟨rfl, hl⟩
  have hb := hl.bel
  clear hl
  replace HRa := Lib.hid (HRa.out.keep hb)
  replace HRb := Lib.hid (HRb.out.keep hb)
  replace HRc := Lib.hid (HRc.out.keep hb)
  replace HK := Lib.hid (HK.out.keep hb)
  replace HR1 := Lib.hid (HR1.out.keep hb)
  replace HR2 := Lib.hid (HR2.out.keep hb)
  replace HR3 := Lib.hid (HR3.out.keep hb)
  replace HB := bel_tr HB hb
  clear hb
  have HNo := HNn.out
  rcases HNo with ⟨rfl, rfl⟩ | ⟨rfl, rfl⟩
  · go_wp2_with fail
    refine Sch.wp_region_tree (K1 w.heap.size d) (.take 0 (.take 1 (.take 2 (.take 3 (.take 4 (.take 5 (.take 6 (.take 7 (.take 8 (.take 9 (.take 10 (.take 11 (.take 12 (.take 13 (.take 14 (.one 15 (.take 16 (.take 17 (.take 18 (.take 19 (.take 20 (.take 22 (.take 23 (.one 21 (.one 24 (.take 25 (.take 26 (.take 27 (.one 28 (.take 29 (.take 30 (.take 31 .done)))))))))))))))))))))))))))))))) (by kernel_rfl) (by kernel_rfl) (HK.out.keep ((Below.refl _ _).drew)) ?_
    have hb : Below w12.heap.size w12 w12.drew := (Below.refl _ _).drew
    replace HRa := Lib.hid (HRa.out.keep hb)
    replace HRb := Lib.hid (HRb.out.keep hb)
    replace HRc := Lib.hid (HRc.out.keep hb)
    replace HK := Lib.hid (HK.out.keep hb)
    replace HR1 := Lib.hid (HR1.out.keep hb)
    replace HR2 := Lib.hid (HR2.out.keep hb)
    replace HR3 := Lib.hid (HR3.out.keep hb)
    replace HB := bel_tr HB hb
    clear hb
    generalize w12.drew = w13 at *
    repeat (first
      | (refine tree_load _ _ _ _ _ rfl rfl rfl rfl K1.l rfl ?_; simp only [Act.put, List.setIfInBounds_toArray, List.set_cons_zero, List.set_cons_succ])
      | (refine Sch.tree_q rfl rfl (fun K hK => ?_); go_big_quiet_op; (first | refine hK _ ?_ | refine ⟨_, fun _ _ => rfl, hK _ ?_⟩); clear hK K)
      | (refine Sch.tree_s _ rfl rfl rfl ?_; simp only [Act.put, List.setIfInBounds_toArray, List.set_cons_zero, List.set_cons_succ])
      | (refine Sch.tree_se _ rfl rfl rfl ?_; simp only [Act.put, List.setIfInBounds_toArray, List.set_cons_zero, List.set_cons_succ]))
    refine Sch.tree_e rfl rfl (fun K hK => ?_)
    go_wp2_with fail
    refine (HSm.out a1 c1 _ HRa.out HR1.out).mono ?_
    rintro e w14 ⟨rfl, hb⟩
    replace HRa := Lib.hid (HRa.out.keep hb)
    replace HRb := Lib.hid (HRb.out.keep hb)
    replace HRc := Lib.hid (HRc.out.keep hb)
    replace HK := Lib.hid (HK.out.keep hb)
    replace HR1 := Lib.hid (HR1.out.keep hb)
    replace HR2 := Lib.hid (HR2.out.keep hb)
    replace HR3 := Lib.hid (HR3.out.keep hb)
    replace HB := bel_tr HB hb
    clear hb
    refine hK _ _ HK.out ?_
    clear hK K
    repeat (first
      | (refine tree_load _ _ _ _ _ rfl rfl rfl rfl K1.l rfl ?_; simp only [Act.put, List.setIfInBounds_toArray, List.set_cons_zero, List.set_cons_succ])
      | (refine Sch.tree_q rfl rfl (fun K hK => ?_); go_big_quiet_op; (first | refine hK _ ?_ | refine ⟨_, fun _ _ => rfl, hK _ ?_⟩); clear hK K)
      | (refine Sch.tree_s _ rfl rfl rfl ?_; simp only [Act.put, List.setIfInBounds_toArray, List.set_cons_zero, List.set_cons_succ])
      | (refine Sch.tree_se _ rfl rfl rfl ?_; simp only [Act.put, List.setIfInBounds_toArray, List.set_cons_zero, List.set_cons_succ]))
    refine Sch.tree_e rfl rfl (fun K hK => ?_)
    go_wp2_with fail
    refine (HH1.out a1 c1 _ HR1.out).mono ?_
    rintro e w15 ⟨rfl, hl⟩
    have hb := hl.bel
    clear hl
    replace HRa := Lib.hid (HRa.out.keep hb)
    replace HRb := Lib.hid (HRb.out.keep hb)
    replace HRc := Lib.hid (HRc.out.keep hb)
    replace HK := Lib.hid (HK.out.keep hb)
    replace HR1 := Lib.hid (HR1.out.keep hb)
    replace HR2 := Lib.hid (HR2.out.keep hb)
    replace HR3 := Lib.hid (HR3.out.keep hb)
    replace HB := bel_tr HB hb
    clear hb
    refine hK _ _ HK.out ?_
    clear hK K
    refine Sch.tree_e rfl rfl (fun K hK => ?_)
    go_wp2_with fail
    refine (HH2.out _ HRa.out).mono ?_
    rintro e w16 ⟨rfl, hl⟩
    have hb := hl.bel
    clear hl
    replace HRa := Lib.hid (HRa.out.keep hb)
    replace HRb := Lib.hid (HRb.out.keep hb)
    replace HRc := Lib.hid (HRc.out.keep hb)
    replace HK := Lib.hid (HK.out.keep hb)
    replace HR1 := Lib.hid (HR1.out.keep hb)
    replace HR2 := Lib.hid (HR2.out.keep hb)
    replace HR3 := Lib.hid (HR3.out.keep hb)
    replace HB := bel_tr HB hb
    clear hb
    refine hK _ _ HK.out ?_
    clear hK K
    rcases hA with _ | _
    · have e3 : (false || hB) = hB := Bool.false_or _
      simp only [Bool.false_or]
      have e4 : (hB != hB) = false := by simp
      repeat (first
        | (refine tree_load _ _ _ _ _ rfl rfl rfl rfl K1.l rfl ?_; simp only [Act.put, List.setIfInBounds_toArray, List.set_cons_zero, List.set_cons_succ])
        | (refine Sch.tree_q rfl rfl (fun K hK => ?_); go_big_quiet_op; (first | refine hK _ ?_ | refine ⟨_, fun _ _ => rfl, hK _ ?_⟩); clear hK K)
        | (refine Sch.tree_s _ rfl rfl rfl ?_; simp only [Act.put, List.setIfInBounds_toArray, List.set_cons_zero, List.set_cons_succ])
        | (refine Sch.tree_se _ rfl rfl rfl ?_; simp only [Act.put, List.setIfInBounds_toArray, List.set_cons_zero, List.set_cons_succ]))
      refine Sch.tree_e rfl rfl (fun K hK => ?_)
      go_wp2_with fail
      refine (HH3.out _ HRb.out).mono ?_
      rintro e w17 ⟨rfl, hl⟩
      have hb := hl.bel
      clear hl
      replace HRa := Lib.hid (HRa.out.keep hb)
      replace HRb := Lib.hid (HRb.out.keep hb)
      replace HRc := Lib.hid (HRc.out.keep hb)
      replace HK := Lib.hid (HK.out.keep hb)
      replace HR1 := Lib.hid (HR1.out.keep hb)
      replace HR2 := Lib.hid (HR2.out.keep hb)
      replace HR3 := Lib.hid (HR3.out.keep hb)
      replace HB := bel_tr HB hb
      clear hb
      refine hK _ _ HK.out ?_
      clear hK K
      repeat (first
        | (refine tree_load _ _ _ _ _ rfl rfl rfl rfl K1.l rfl ?_; simp only [Act.put, List.setIfInBounds_toArray, List.set_cons_zero, List.set_cons_succ])
        | (refine Sch.tree_q rfl rfl (fun K hK => ?_); go_big_quiet_op; (first | refine hK _ ?_ | refine ⟨_, fun _ _ => rfl, hK _ ?_⟩); clear hK K)
        | (refine Sch.tree_s _ rfl rfl rfl ?_; simp only [Act.put, List.setIfInBounds_toArray, List.set_cons_zero, List.set_cons_succ])
        | (refine Sch.tree_se _ rfl rfl rfl ?_; simp only [Act.put, List.setIfInBounds_toArray, List.set_cons_zero, List.set_cons_succ]))
      refine Sch.tree_n ?_
      go_wp2_with fail
      refine (HTx.out _ (HLd.out.below HB.out) HRa.out).mono ?_
      rintro e w18 ⟨rfl, hb⟩
      replace HRa := Lib.hid (HRa.out.keep hb)
      replace HRb := Lib.hid (HRb.out.keep hb)
      replace HRc := Lib.hid (HRc.out.keep hb)
      replace HK := Lib.hid (HK.out.keep hb)
      replace HR1 := Lib.hid (HR1.out.keep hb)
      replace HR2 := Lib.hid (HR2.out.keep hb)
      replace HR3 := Lib.hid (HR3.out.keep hb)
      replace HB := bel_tr HB hb
      clear hb
      go_wp2_with fail
      refine (HPs.out _ _ (HLd.out.below HB.out) ⟨a, p, rfl, HRa.out, HNa.out, HLc.out⟩).mono ?_
      rintro e w19 ⟨rfl, hb⟩
      replace HRa := Lib.hid (HRa.out.keep hb)
      replace HRb := Lib.hid (HRb.out.keep hb)
      replace HRc := Lib.hid (HRc.out.keep hb)
      replace HK := Lib.hid (HK.out.keep hb)
      replace HR1 := Lib.hid (HR1.out.keep hb)
      replace HR2 := Lib.hid (HR2.out.keep hb)
      replace HR3 := Lib.hid (HR3.out.keep hb)
      replace HB := bel_tr HB hb
      clear hb
      go_wp2_with fail
      refine (HKn.out _ (HLd.out.below HB.out)).mono ?_
      rintro e w20 ⟨rfl, hb⟩
      replace HRa := Lib.hid (HRa.out.keep hb)
      replace HRb := Lib.hid (HRb.out.keep hb)
      replace HRc := Lib.hid (HRc.out.keep hb)
      replace HK := Lib.hid (HK.out.keep hb)
      replace HR1 := Lib.hid (HR1.out.keep hb)
      replace HR2 := Lib.hid (HR2.out.keep hb)
      replace HR3 := Lib.hid (HR3.out.keep hb)
      replace HB := bel_tr HB hb
      clear hb
      go_wp2_with fail
      go_ret
      exact ⟨rfl, HB.out⟩
    · simp only [Bool.true_or]
      repeat (first
        | (refine tree_load _ _ _ _ _ rfl rfl rfl rfl K1.l rfl ?_; simp only [Act.put, List.setIfInBounds_toArray, List.set_cons_zero, List.set_cons_succ])
        | (refine Sch.tree_q rfl rfl (fun K hK => ?_); go_big_quiet_op; (first | refine hK _ ?_ | refine ⟨_, fun _ _ => rfl, hK _ ?_⟩); clear hK K)
        | (refine Sch.tree_s _ rfl rfl rfl ?_; simp only [Act.put, List.setIfInBounds_toArray, List.set_cons_zero, List.set_cons_succ])
        | (refine Sch.tree_se _ rfl rfl rfl ?_; simp only [Act.put, List.setIfInBounds_toArray, List.set_cons_zero, List.set_cons_succ]))
      refine Sch.tree_n ?_
      go_wp2_with fail
      refine (HTx.out _ (HLd.out.below HB.out) HRa.out).mono ?_
      rintro e w17 ⟨rfl, hb⟩
      replace HRa := Lib.hid (HRa.out.keep hb)
      replace HRb := Lib.hid (HRb.out.keep hb)
      replace HRc := Lib.hid (HRc.out.keep hb)
      replace HK := Lib.hid (HK.out.keep hb)
      replace HR1 := Lib.hid (HR1.out.keep hb)
      replace HR2 := Lib.hid (HR2.out.keep hb)
      replace HR3 := Lib.hid (HR3.out.keep hb)
      replace HB := bel_tr HB hb
      clear hb
      go_wp2_with fail
      refine (HPs.out _ _ (HLd.out.below HB.out) ⟨a, p, rfl, HRa.out, HNa.out, HLc.out⟩).mono ?_
      rintro e w18 ⟨rfl, hb⟩
      replace HRa := Lib.hid (HRa.out.keep hb)
      replace HRb := Lib.hid (HRb.out.keep hb)
      replace HRc := Lib.hid (HRc.out.keep hb)
      replace HK := Lib.hid (HK.out.keep hb)
      replace HR1 := Lib.hid (HR1.out.keep hb)
      replace HR2 := Lib.hid (HR2.out.keep hb)
      replace HR3 := Lib.hid (HR3.out.keep hb)
      replace HB := bel_tr HB hb
      clear hb
      go_wp2_with fail
      refine (HKn.out _ (HLd.out.below HB.out)).mono ?_
      rintro e w19 ⟨rfl, hb⟩
      replace HRa := Lib.hid (HRa.out.keep hb)
      replace HRb := Lib.hid (HRb.out.keep hb)
      replace HRc := Lib.hid (HRc.out.keep hb)
      replace HK := Lib.hid (HK.out.keep hb)
      replace HR1 := Lib.hid (HR1.out.keep hb)
      replace HR2 := Lib.hid (HR2.out.keep hb)
      replace HR3 := Lib.hid (HR3.out.keep hb)
      replace HB := bel_tr HB hb
      clear hb
      go_wp2_with fail
      go_ret
      exact ⟨rfl, HB.out⟩
  · go_wp2_with fail
    refine Sch.wp_region_tree (K1 w.heap.size d) (.take 0 (.take 1 (.take 2 (.take 3 (.take 4 (.take 5 (.take 6 (.take 7 (.take 8 (.take 9 (.take 10 (.take 11 (.take 12 (.take 13 (.take 14 (.one 15 (.take 16 (.take 17 (.take 18 (.take 19 (.take 20 (.take 22 (.take 23 (.one 21 (.one 24 (.take 25 (.take 26 (.take 27 (.one 28 (.take 29 (.take 30 (.take 31 .done)))))))))))))))))))))))))))))))) (by kernel_rfl) (by kernel_rfl) (HK.out.keep ((Below.refl _ _).drew)) ?_
    have hb : Below w12.heap.size w12 w12.drew := (Below.refl _ _).drew
    replace HRa := Lib.hid (HRa.out.keep hb)
    replace HRb := Lib.hid (HRb.out.keep hb)
    replace HRc := Lib.hid (HRc.out.keep hb)
    replace HK := Lib.hid (HK.out.keep hb)
    replace HR1 := Lib.hid (HR1.out.keep hb)
    replace HR2 := Lib.hid (HR2.out.keep hb)
    replace HR3 := Lib.hid (HR3.out.keep hb)
    replace HB := bel_tr HB hb
    clear hb
    generalize w12.drew = w13 at *
    repeat (first
      | (refine tree_load _ _ _ _ _ rfl rfl rfl rfl K1.l rfl ?_; simp only [Act.put, List.setIfInBounds_toArray, List.set_cons_zero, List.set_cons_succ])
      | (refine Sch.tree_q rfl rfl (fun K hK => ?_); go_big_quiet_op; (first | refine hK _ ?_ | refine ⟨_, fun _ _ => rfl, hK _ ?_⟩); clear hK K)
      | (refine Sch.tree_s _ rfl rfl rfl ?_; simp only [Act.put, List.setIfInBounds_toArray, List.set_cons_zero, List.set_cons_succ])
      | (refine Sch.tree_se _ rfl rfl rfl ?_; simp only [Act.put, List.setIfInBounds_toArray, List.set_cons_zero, List.set_cons_succ]))
    refine Sch.tree_e rfl rfl (fun K hK => ?_)
    go_wp2_with fail
    refine (HSm.out a1 c1 _ HRa.out HR1.out).mono ?_
    rintro e w14 ⟨rfl, hb⟩
    replace HRa := Lib.hid (HRa.out.keep hb)
    replace HRb := Lib.hid (HRb.out.keep hb)
    replace HRc := Lib.hid (HRc.out.keep hb)
    replace HK := Lib.hid (HK.out.keep hb)
    replace HR1 := Lib.hid (HR1.out.keep hb)
    replace HR2 := Lib.hid (HR2.out.keep hb)
    replace HR3 := Lib.hid (HR3.out.keep hb)
    replace HB := bel_tr HB hb
    clear hb
    refine hK _ _ HK.out ?_
    clear hK K
    repeat (first
      | (refine tree_load _ _ _ _ _ rfl rfl rfl rfl K1.l rfl ?_; simp only [Act.put, List.setIfInBounds_toArray, List.set_cons_zero, List.set_cons_succ])
      | (refine Sch.tree_q rfl rfl (fun K hK => ?_); go_big_quiet_op; (first | refine hK _ ?_ | refine ⟨_, fun _ _ => rfl, hK _ ?_⟩); clear hK K)
      | (refine Sch.tree_s _ rfl rfl rfl ?_; simp only [Act.put, List.setIfInBounds_toArray, List.set_cons_zero, List.set_cons_succ])
      | (refine Sch.tree_se _ rfl rfl rfl ?_; simp only [Act.put, List.setIfInBounds_toArray, List.set_cons_zero, List.set_cons_succ]))
    refine Sch.tree_e rfl rfl (fun K hK => ?_)
    go_wp2_with fail
    refine (HH1.out a1 c1 _ HR1.out).mono ?_
    rintro e w15 ⟨rfl, hl⟩
    have hb := hl.bel
    clear hl
    replace HRa := Lib.hid (HRa.out.keep hb)
    replace HRb := Lib.hid (HRb.out.keep hb)
    replace HRc := Lib.hid (HRc.out.keep hb)
    replace HK := Lib.hid (HK.out.keep hb)
    replace HR1 := Lib.hid (HR1.out.keep hb)
    replace HR2 := Lib.hid (HR2.out.keep hb)
    replace HR3 := Lib.hid (HR3.out.keep hb)
    replace HB := bel_tr HB hb
    clear hb
    refine hK _ _ HK.out ?_
    clear hK K
    refine Sch.tree_e rfl rfl (fun K hK => ?_)
    go_wp2_with fail
    refine (HH2.out _ HRa.out).mono ?_
    rintro e w16 ⟨rfl, hl⟩
    have hb := hl.bel
    clear hl
    replace HRa := Lib.hid (HRa.out.keep hb)
    replace HRb := Lib.hid (HRb.out.keep hb)
    replace HRc := Lib.hid (HRc.out.keep hb)
    replace HK := Lib.hid (HK.out.keep hb)
    replace HR1 := Lib.hid (HR1.out.keep hb)
    replace HR2 := Lib.hid (HR2.out.keep hb)
    replace HR3 := Lib.hid (HR3.out.keep hb)
    replace HB := bel_tr HB hb
    clear hb
    refine hK _ _ HK.out ?_
    clear hK K
    rcases hA with _ | _
    · have e3 : (false || hB) = hB := Bool.false_or _
      simp only [Bool.false_or]
      have e4 : (hB != hB) = false := by simp
      repeat (first
        | (refine tree_load _ _ _ _ _ rfl rfl rfl rfl K1.l rfl ?_; simp only [Act.put, List.setIfInBounds_toArray, List.set_cons_zero, List.set_cons_succ])
        | (refine Sch.tree_q rfl rfl (fun K hK => ?_); go_big_quiet_op; (first | refine hK _ ?_ | refine ⟨_, fun _ _ => rfl, hK _ ?_⟩); clear hK K)
        | (refine Sch.tree_s _ rfl rfl rfl ?_; simp only [Act.put, List.setIfInBounds_toArray, List.set_cons_zero, List.set_cons_succ])
        | (refine Sch.tree_se _ rfl rfl rfl ?_; simp only [Act.put, List.setIfInBounds_toArray, List.set_cons_zero, List.set_cons_succ]))
      refine Sch.tree_e rfl rfl (fun K hK => ?_)
      go_wp2_with fail
      refine (HH3.out _ HRb.out).mono ?_
      rintro e w17 ⟨rfl, hl⟩
      have hb := hl.bel
      clear hl
      replace HRa := Lib.hid (HRa.out.keep hb)
      replace HRb := Lib.hid (HRb.out.keep hb)
      replace HRc := Lib.hid (HRc.out.keep hb)
      replace HK := Lib.hid (HK.out.keep hb)
      replace HR1 := Lib.hid (HR1.out.keep hb)
      replace HR2 := Lib.hid (HR2.out.keep hb)
      replace HR3 := Lib.hid (HR3.out.keep hb)
      replace HB := bel_tr HB hb
      clear hb
      refine hK _ _ HK.out ?_
      clear hK K
      repeat (first
        | (refine tree_load _ _ _ _ _ rfl rfl rfl rfl K1.l rfl ?_; simp only [Act.put, List.setIfInBounds_toArray, List.set_cons_zero, List.set_cons_succ])
        | (refine Sch.tree_q rfl rfl (fun K hK => ?_); go_big_quiet_op; (first | refine hK _ ?_ | refine ⟨_, fun _ _ => rfl, hK _ ?_⟩); clear hK K)
        | (refine Sch.tree_s _ rfl rfl rfl ?_; simp only [Act.put, List.setIfInBounds_toArray, List.set_cons_zero, List.set_cons_succ])
        | (refine Sch.tree_se _ rfl rfl rfl ?_; simp only [Act.put, List.setIfInBounds_toArray, List.set_cons_zero, List.set_cons_succ]))
      refine Sch.tree_n ?_
      go_wp2_with fail
      refine (HTx.out _ (HLd.out.below HB.out) HRa.out).mono ?_
      rintro e w18 ⟨rfl, hb⟩
      replace HRa := Lib.hid (HRa.out.keep hb)
      replace HRb := Lib.hid (HRb.out.keep hb)
      replace HRc := Lib.hid (HRc.out.keep hb)
      replace HK := Lib.hid (HK.out.keep hb)
      replace HR1 := Lib.hid (HR1.out.keep hb)
      replace HR2 := Lib.hid (HR2.out.keep hb)
      replace HR3 := Lib.hid (HR3.out.keep hb)
      replace HB := bel_tr HB hb
      clear hb
      go_wp2_with fail
      refine (HPs.out _ _ (HLd.out.below HB.out) ⟨a, p, rfl, HRa.out, HNa.out, HLc.out⟩).mono ?_
      rintro e w19 ⟨rfl, hb⟩
      replace HRa := Lib.hid (HRa.out.keep hb)
      replace HRb := Lib.hid (HRb.out.keep hb)
      replace HRc := Lib.hid (HRc.out.keep hb)
      replace HK := Lib.hid (HK.out.keep hb)
      replace HR1 := Lib.hid (HR1.out.keep hb)
      replace HR2 := Lib.hid (HR2.out.keep hb)
      replace HR3 := Lib.hid (HR3.out.keep hb)
      replace HB := bel_tr HB hb
      clear hb
      go_wp2_with fail
      refine (HKn.out _ (HLd.out.below HB.out)).mono ?_
      rintro e w20 ⟨rfl, hb⟩
      replace HRa := Lib.hid (HRa.out.keep hb)
      replace HRb := Lib.hid (HRb.out.keep hb)
      replace HRc := Lib.hid (HRc.out.keep hb)
      replace HK := Lib.hid (HK.out.keep hb)
      replace HR1 := Lib.hid (HR1.out.keep hb)
      replace HR2 := Lib.hid (HR2.out.keep hb)
      replace HR3 := Lib.hid (HR3.out.keep hb)
      replace HB := bel_tr HB hb
      clear hb
      go_wp2_with fail
      go_ret
      exact ⟨rfl, HB.out⟩
    · simp only [Bool.true_or]
      repeat (first
        | (refine tree_load _ _ _ _ _ rfl rfl rfl rfl K1.l rfl ?_; simp only [Act.put, List.setIfInBounds_toArray, List.set_cons_zero, List.set_cons_succ])
        | (refine Sch.tree_q rfl rfl (fun K hK => ?_); go_big_quiet_op; (first | refine hK _ ?_ | refine ⟨_, fun _ _ => rfl, hK _ ?_⟩); clear hK K)
        | (refine Sch.tree_s _ rfl rfl rfl ?_; simp only [Act.put, List.setIfInBounds_toArray, List.set_cons_zero, List.set_cons_succ])
        | (refine Sch.tree_se _ rfl rfl rfl ?_; simp only [Act.put, List.setIfInBounds_toArray, List.set_cons_zero, List.set_cons_succ]))
      refine Sch.tree_n ?_
      go_wp2_with fail
      refine (HTx.out _ (HLd.out.below HB.out) HRa.out).mono ?_
      rintro e w17 ⟨rfl, hb⟩
      replace HRa := Lib.hid (HRa.out.keep hb)
      replace HRb := Lib.hid (HRb.out.keep hb)
      replace HRc := Lib.hid (HRc.out.keep hb)
      replace HK := Lib.hid (HK.out.keep hb)
      replace HR1 := Lib.hid (HR1.out.keep hb)
      replace HR2 := Lib.hid (HR2.out.keep hb)
      replace HR3 := Lib.hid (HR3.out.keep hb)
      replace HB := bel_tr HB hb
      clear hb
      go_wp2_with fail
      refine (HPs.out _ _ (HLd.out.below HB.out) ⟨a, p, rfl, HRa.out, HNa.out, HLc.out⟩).mono ?_
      rintro e w18 ⟨rfl, hb⟩
      replace HRa := Lib.hid (HRa.out.keep hb)
      replace HRb := Lib.hid (HRb.out.keep hb)
      replace HRc := Lib.hid (HRc.out.keep hb)
      replace HK := Lib.hid (HK.out.keep hb)
      replace HR1 := Lib.hid (HR1.out.keep hb)
      replace HR2 := Lib.hid (HR2.out.keep hb)
      replace HR3 := Lib.hid (HR3.out.keep hb)
      replace HB := bel_tr HB hb
      clear hb
      go_wp2_with fail
      refine (HKn.out _ (HLd.out.below HB.out)).mono ?_
      rintro e w19 ⟨rfl, hb⟩
      replace HRa := Lib.hid (HRa.out.keep hb)
      replace HRb := Lib.hid (HRb.out.keep hb)
      replace HRc := Lib.hid (HRc.out.keep hb)
      replace HK := Lib.hid (HK.out.keep hb)
      replace HR1 := Lib.hid (HR1.out.keep hb)
      replace HR2 := Lib.hid (HR2.out.keep hb)
      replace HR3 := Lib.hid (HR3.out.keep hb)
      replace HB := bel_tr HB hb
      clear hb
      go_wp2_with fail
      go_ret
      exact ⟨rfl, HB.out⟩
end Go.Proofs.YtfemfmppjabdjaaDoor.E
