/-
  The reference's Parse.
-/
import Derived.Test.YtmmcnpcijeahcabGreatDoorNPrs
import Derived.Test.YtmmcnpcijeahcabGreatDoorNTim
import Derived.Test.YtmmcnpcijeahcabGreatDoorNTxR
import Derived.Test.YtmmcnpcijeahcabGreatDoorNRef
namespace Go.Proofs.YtmmcnpcijeahcabGreatDoor.Nd
set_option linter.unusedVariables false
open Go.RowKit V Go.Sort D
attribute [local irreducible] Sch.heldN Sch.stepV Sch.stepE

/-- A part that the reference reads as a rune. -/
def runeC (l : List UInt8) (r : Int) (c : Bool) : Prop :=
  (l = [45] ∧ r = 0 ∧ c = true) ∨ (∃ m : Nat, R.vld (m : Int) = true ∧ l = R.nm m ∧ r = (m : Int) ∧ c = true) ∨ (l ≠ [45] ∧ (∀ m : Nat, R.vld (m : Int) = true → l ≠ R.nm m) ∧ r = 0 ∧ c = false)
theorem runeC_ok {l : List UInt8} {r : Int} {c : Bool} (h : runeC l r c) {s : Int} (hs : s = 0 ∨ R.vld s = true) (hl : l = runeT s) : r = s ∧ c = true := by
  rcases hs with rfl | hs
  · rw [show runeT 0 = [45] from rfl] at hl
    rcases h with ⟨-, rfl, rfl⟩ | ⟨m, hv, hm, -, -⟩ | ⟨hn, -⟩
    · exact ⟨rfl, rfl⟩
    · obtain ⟨_, _, _, hm2, _⟩ := vld_nat hv
      rw [hm] at hl
      exact absurd hl (nm_ne_dash (by omega))
    · exact absurd hl hn
  · obtain ⟨n, rfl, hv, hn, h0⟩ := vld_nat hs
    rw [show runeT (n : Int) = R.nm n by unfold runeT; rw [if_neg (by omega), Int.toNat_natCast]] at hl
    rcases h with ⟨hm, -, -⟩ | ⟨m, hv2, hm, rfl, rfl⟩ | ⟨-, hno, -⟩
    · rw [hl] at hm
      exact absurd hm (nm_ne_dash hn)
    · obtain ⟨_, _, _, hm2, _⟩ := vld_nat hv2
      exact ⟨by rw [nm_inj (by omega) hn (hm.symm.trans hl)], rfl⟩
    · exact absurd hl (hno n hv)
theorem runeC_i32 {l : List UInt8} {r : Int} {c : Bool} (h : runeC l r c) : i32 r := by
  unfold i32
  rcases h with ⟨-, rfl, -⟩ | ⟨m, hv, -, rfl, -⟩ | ⟨-, -, rfl, -⟩
  · omega
  · have := R.vld_iff.1 hv; omega
  · omega
theorem prsB_named {l : List UInt8} {d : Dt} (h : named d) (hl : l = txtD d) : prsB l = (d, true) := by
  unfold prsB
  rw [hl, prs_txt h]
theorem parse_sameB {l p0 p1 p2 p3 : List UInt8} (hw : wordsL l = [p0, p1, p2, p3]) {d0 d1 : Dt} {a b c : Bool} {r : Int} (h0 : prsB p0 = (d0, a)) (h1 : prsB p1 = (d1, b)) (hr : runeC p3 r c) {m : Nt} (hm : VN m) (hl : l = txtN m) :
    a = true ∧ b = true ∧ c = true ∧ (d0, d1, ((tR 0 p2 : Nat) : Int), r) = m := by
  rw [hl, words_txt] at hw
  simp only [List.cons.injEq, and_true] at hw
  obtain ⟨e0, e1, e2, e3⟩ := hw
  obtain ⟨m1, m2, m3, m4, m5, m6⟩ := hm
  rw [prsB_named (.inl m1) e0.symm] at h0
  rw [prsB_named m2 e1.symm] at h1
  obtain ⟨k1, k2⟩ := runeC_ok hr m6 e3.symm
  cases h0
  cases h1
  refine ⟨rfl, rfl, k2, node_ext rfl rfl ?_ k1⟩
  show ((tR 0 p2 : Nat) : Int) = m.2.2.1
  rw [← e2, tR_txt (by omega)]
  omega
theorem parse_noB {l p0 p1 p2 p3 : List UInt8} (hw : wordsL l = [p0, p1, p2, p3]) {d0 d1 : Dt} {a b c : Bool} {r : Int} (h0 : prsB p0 = (d0, a)) (h1 : prsB p1 = (d1, b)) (hr : runeC p3 r c)
    (h : ¬ (a = true ∧ b = true ∧ c = true ∧ validN (d0, d1, ((tR 0 p2 : Nat) : Int), r) = true ∧ txtN (d0, d1, ((tR 0 p2 : Nat) : Int), r) = l)) : ∀ m, VN m → l ≠ txtN m := by
  intro m hm hl
  obtain ⟨k1, k2, k3, e⟩ := parse_sameB hw h0 h1 hr hm hl
  rw [e] at h
  exact h ⟨k1, k2, k3, valid_vn.2 hm, hl.symm⟩
/-- Two dots and four strings in memory. -/
def PS (g0 g1 g : Nat) (d0 d1 : Dt) (p0 p1 p2 p3 : List UInt8) (w : World) : Prop := Db w g0 d0 ∧ Db w g1 d1 ∧ R4 w g p0 p1 p2 p3
section
variable {g0 g1 g : Nat} {d0 d1 : Dt} {p0 p1 p2 p3 : List UInt8}
theorem PS.keep {w w' : World} (h : PS g0 g1 g d0 d1 p0 p1 p2 p3 w) (hb : Below w.heap.size w w') : PS g0 g1 g d0 d1 p0 p1 p2 p3 w' := ⟨h.1.keep hb, h.2.1.keep hb, h.2.2.keep hb⟩
theorem PS.l0 : ∀ w, PS g0 g1 g d0 d1 p0 p1 p2 p3 w → (Instr.loadAt 23 (.pointer (some ⟨g0, 0, none⟩))).run Tryz.prog w = .ok (dv d0) w := fun w h => load_dot h.1.1 h.1.2
theorem PS.l1 : ∀ w, PS g0 g1 g d0 d1 p0 p1 p2 p3 w → (Instr.loadAt 23 (.pointer (some ⟨g1, 0, none⟩))).run Tryz.prog w = .ok (dv d1) w := fun w h => load_dot h.2.1.1 h.2.1.2
theorem PS.l2 : ∀ w, PS g0 g1 g d0 d1 p0 p1 p2 p3 w → (Instr.loadAt 9 (.pointer (some ⟨g, 2, none⟩))).run Tryz.prog w = .ok (.string ⟨p2.toArray⟩) w := fun w h => by
  have k := h.2.2.2.2.1
  go_simp
end

set_option maxRecDepth 100000 in
set_option maxHeartbeats 8000000 in
theorem parseN_ref (l : List UInt8) (w : World) (hlen : l.length ≤ 1000000) :
    Calls Tryz.prog 20 #[.string ⟨l.toArray⟩] w fun e w' => PrsP l (.bool true) (.bool false) e ∧ Below w.heap.size w w' := by
  have HLe := Lib.hid hlen
  have HZ := Lib.hid (Zb.new w)
  have HB := Lib.hid (bel_box w (.cells #[.int .i64 0, .int .i64 0, .int .i64 0, .int .i64 0, .int .i64 0, .int .i32 0] 25))
  have HSp := Lib.hid (fun w => words_ref l w hlen)
  clear hlen
  go_enter Tryz.func20, Tryz.ntmps20
  go_wp2_with fail
  generalize w.alloc (.cells #[.int .i64 0, .int .i64 0, .int .i64 0, .int .i64 0, .int .i64 0, .int .i32 0] 25) = w0 at *
  refine (HSp.out _).mono ?_
  rintro e w1 ⟨g, c, rfl, hc, hrow, hg, hb⟩
  replace HZ := Lib.hid (HZ.out.keep hb)
  replace HB := bel_tr HB hb
  clear hb HSp hg
  by_cases h4 : (wordsL l).length = 4
  · rw [h4] at hc
    obtain ⟨p0, p1, p2, p3, hw⟩ := four h4
    rw [h4]
    rw [hw] at hrow
    have HR := Lib.hid (R4.of hrow)
    have HW := Lib.hid hw
    have HP0 : Hid (p0.length ≤ 1000000) := Nat.le_trans (words_le l p0 (by rw [hw]; simp)) HLe.out
    have HP1 : Hid (p1.length ≤ 1000000) := Nat.le_trans (words_le l p1 (by rw [hw]; simp)) HLe.out
    have HP2 : Hid (p2.length ≤ 1000000) := Nat.le_trans (words_le l p2 (by rw [hw]; simp)) HLe.out
    have HP3 : Hid (p3.length ≤ 1000000) := Nat.le_trans (words_le l p3 (by rw [hw]; simp)) HLe.out
    clear hw hrow h4
    obtain ⟨s0, s1, s2, s3⟩ := HR.out
    go_wp2_with fail
    refine (parse_ref p0 _ HP0.out).mono ?_
    rintro e w2 ⟨rfl, hb⟩
    replace HZ := Lib.hid (HZ.out.keep hb)
    replace HR := Lib.hid (HR.out.keep hb)
    replace HB := bel_tr HB hb
    clear hb
    obtain ⟨⟨⟨d01, d02⟩, a⟩, hp0⟩ : ∃ x, x = prsB p0 := ⟨_, rfl⟩
    rw [← hp0]
    have HQ0 := Lib.hid hp0.symm
    clear hp0 s0 s1 s2 s3
    have HD0 := Lib.hid (Db.new w2 (d01, d02))
    have hb := bel_box w2 (.cells #[.int .i64 d01, .int .i64 d02] 23)
    replace HZ := Lib.hid (HZ.out.keep hb)
    replace HR := Lib.hid (HR.out.keep hb)
    replace HB := bel_tr HB hb
    clear hb
    obtain ⟨s0, s1, s2, s3⟩ := HR.out
    go_wp2_with fail
    generalize w2.alloc (.cells #[.int .i64 d01, .int .i64 d02] 23) = w3 at *
    generalize w2.heap.size = g0 at *
    refine (parse_ref p1 _ HP1.out).mono ?_
    rintro e w4 ⟨rfl, hb⟩
    replace HZ := Lib.hid (HZ.out.keep hb)
    replace HR := Lib.hid (HR.out.keep hb)
    replace HD0 := Lib.hid (HD0.out.keep hb)
    replace HB := bel_tr HB hb
    clear hb
    obtain ⟨⟨⟨d11, d12⟩, b⟩, hp1⟩ : ∃ x, x = prsB p1 := ⟨_, rfl⟩
    rw [← hp1]
    have HQ1 := Lib.hid hp1.symm
    clear hp1 s0 s1 s2 s3
    have HD1 := Lib.hid (Db.new w4 (d11, d12))
    have hb := bel_box w4 (.cells #[.int .i64 d11, .int .i64 d12] 23)
    replace HZ := Lib.hid (HZ.out.keep hb)
    replace HR := Lib.hid (HR.out.keep hb)
    replace HD0 := Lib.hid (HD0.out.keep hb)
    replace HB := bel_tr HB hb
    clear hb
    go_wp2_with fail
    generalize w4.alloc (.cells #[.int .i64 d11, .int .i64 d12] 23) = w5 at *
    generalize w4.heap.size = g1 at *
    have HPS : Hid (PS g0 g1 g (d01, d02) (d11, d12) p0 p1 p2 p3 w5) := ⟨HD0.out, HD1.out, HR.out⟩
    clear HD0 HD1 HR
    have hb : Below w5.heap.size w5 w5.drew := (Below.refl _ _).drew
    replace HZ := Lib.hid (HZ.out.keep hb)
    replace HPS := Lib.hid (HPS.out.keep hb)
    replace HB := bel_tr HB hb
    clear hb
    have HTi := Lib.hid (fun w => time_ref p2 w HP2.out)
    have HX := Lib.hid (fun r c (h : runeC p3 r c) => @parse_noB l p0 p1 p2 p3 HW.out _ _ a b c r HQ0.out HQ1.out h)
    clear HQ0 HQ1 HW
    generalize ((tR 0 p2 : Nat) : Int) = z at *
    refine Sch.wp_region_tn (PS g0 g1 g (d01, d02) (d11, d12) p0 p1 p2 p3) (.val 0 (.val 1 (.val 2 (.val 3 (.val 4 (.two 5 (.val 6 (.one 7 (.one 8 .done))) 7 (.one 5 (.val 6 (.one 8 .done))))))))) (by kernel_rfl) (by kernel_rfl) HPS.out ?_
    generalize w5.drew = w6 at *
    refine Sch.tn_load _ _ _ _ _ rfl rfl rfl rfl (by exact PS.l0) rfl ?_
    simp only [Act.put, List.setIfInBounds_toArray, List.set_cons_zero, List.set_cons_succ]
    refine Sch.tn_load _ _ _ _ _ rfl rfl rfl rfl (by exact PS.l1) rfl ?_
    simp only [Act.put, List.setIfInBounds_toArray, List.set_cons_zero, List.set_cons_succ]
    refine Sch.tn_q rfl rfl rfl (fun K hK => ?_)
    go_big_quiet_op
    first | refine hK _ ?_ | refine ⟨_, fun _ _ => rfl, hK _ ?_⟩
    clear hK K
    refine Sch.tn_q rfl rfl rfl (fun K hK => ?_)
    go_big_quiet_op
    first | refine hK _ ?_ | refine ⟨_, fun _ _ => rfl, hK _ ?_⟩
    clear hK K
    refine Sch.tn_load _ _ _ _ _ rfl rfl rfl rfl (by exact PS.l2) rfl ?_
    simp only [Act.put, List.setIfInBounds_toArray, List.set_cons_zero, List.set_cons_succ]
    refine Sch.tn_two ?_ ?_
    · refine Sch.tn_e rfl rfl (fun K hK => ?_)
      go_wp2_with fail
      refine (HTi.out _).mono ?_
      rintro e wt ⟨rfl, rfl⟩
      refine hK _ _ HPS.out ?_
      clear hK K
      refine Sch.tn_q rfl rfl rfl (fun K hK => ?_)
      go_big_quiet_op
      first | refine hK _ ?_ | refine ⟨_, fun _ _ => rfl, hK _ ?_⟩
      clear hK K
      refine Sch.tn_e rfl rfl (fun K hK => ?_)
      go_wp2_with fail
      refine hK _ _ (HPS.out.keep (bel_box w6 (.cells #[.int .i64 0, .int .i64 0, .int .i64 0, .int .i64 0, .int .i64 0, .int .i32 0] 25))) ?_
      clear hK K
      refine Sch.tn_e rfl rfl (fun K hK => ?_)
      go_wp2_with fail
      refine hK _ _ (HPS.out.keep (bel_box w6 (.cells #[.int .i64 d01, .int .i64 d02, .int .i64 d11, .int .i64 d12, .int .i64 z, .int .i32 0] 25))) ?_
      clear hK K
      refine Sch.tn_n ?_
      have HP := Lib.hid (HPS.out.keep (bel_box w6 (.cells #[.int .i64 d01, .int .i64 d02, .int .i64 d11, .int .i64 d12, .int .i64 z, .int .i32 0] 25)))
      obtain ⟨-, -, s0, s1, s2, s3⟩ := HP.out
      have HPr := Lib.hid HPS.out
      clear HPS
      by_cases hd : p3 = [45]
      · have hrc : runeC p3 0 true := .inl ⟨hd, rfl, rfl⟩
        have hq : ((⟨p3.toArray⟩ : ByteArray).toList == [45]) = true := by rw [beq_iff_eq, hd]; simp
        clear hd HPr HP HP0 HP1 HP2 HP3 HTi
        generalize (⟨p3.toArray⟩ : ByteArray) = S3 at *
        have HXr := Lib.hid (HX.out 0 true hrc)
        have hri := runeC_i32 hrc
        have HVa := Lib.hid (fun w => validN_ref ((d01, d02), (d11, d12), z, 0) hri w)
        clear hrc hri HX
        have HNb := Lib.hid (Nb.new w6 ((d01, d02), (d11, d12), z, 0))
        have hb := bel_box w6 (.cells #[.int .i64 d01, .int .i64 d02, .int .i64 d11, .int .i64 d12, .int .i64 z, .int .i32 0] 25)
        replace HZ := Lib.hid (HZ.out.keep hb)
        replace HB := bel_tr HB hb
        clear hb
        rcases a with _ | _
        · have HN : Hid (∀ m, VN m → l ≠ txtN m) := HXr.out (fun h => by (have k := h.1; cases k))
          clear HXr
          generalize (⟨l.toArray⟩ : ByteArray) = S at *
          obtain ⟨⟨z0, z1, z2, z3, z4, z5⟩, hf⟩ := HZ.out
          have f0 := hf 0
          have f1 := hf 1
          have f2 := hf 2
          have f3 := hf 3
          have f4 := hf 4
          have f5 := hf 5
          clear hf
          go_wp2_with fail
          (try simp only [Exit.inBlock, Exit.then])
          refine bodyPost_ret (v := .tuple #[.agg #[.int .i64 0, .int .i64 0, .int .i64 0, .int .i64 0, .int .i64 0, .int .i32 0], .bool false]) (by rw [results_cell_tmp (fn := Tryz.f20) (p := 2) (u := 3) (ty := 25) rfl]; go_simp) rfl ?_
          exact ⟨.inr ⟨HN.out, rfl⟩, putN_below HB.out (Nat.le_refl _) zeroN⟩
        · rcases b with _ | _
          · have HN : Hid (∀ m, VN m → l ≠ txtN m) := HXr.out (fun h => by (have k := h.2.1; cases k))
            clear HXr
            generalize (⟨l.toArray⟩ : ByteArray) = S at *
            obtain ⟨⟨z0, z1, z2, z3, z4, z5⟩, hf⟩ := HZ.out
            have f0 := hf 0
            have f1 := hf 1
            have f2 := hf 2
            have f3 := hf 3
            have f4 := hf 4
            have f5 := hf 5
            clear hf
            go_wp2_with fail
            (try simp only [Exit.inBlock, Exit.then])
            refine bodyPost_ret (v := .tuple #[.agg #[.int .i64 0, .int .i64 0, .int .i64 0, .int .i64 0, .int .i64 0, .int .i32 0], .bool false]) (by rw [results_cell_tmp (fn := Tryz.f20) (p := 2) (u := 3) (ty := 25) rfl]; go_simp) rfl ?_
            exact ⟨.inr ⟨HN.out, rfl⟩, putN_below HB.out (Nat.le_refl _) zeroN⟩
          · go_wp2_with fail
            generalize w6.alloc (.cells #[.int .i64 d01, .int .i64 d02, .int .i64 d11, .int .i64 d12, .int .i64 z, .int .i32 0] 25) = w8 at *
            generalize w6.heap.size = g2 at *
            refine (HVa.out _).mono ?_
            rintro e w9 ⟨rfl, hb⟩
            replace HZ := Lib.hid (HZ.out.keep hb)
            replace HNb := Lib.hid (HNb.out.keep hb)
            replace HB := bel_tr HB hb
            clear hb
            rcases hv : validN ((d01, d02), (d11, d12), z, 0) with _ | _
            · have HN : Hid (∀ m, VN m → l ≠ txtN m) := HXr.out (fun h => by (have k := h.2.2.2.1; rw [hv] at k; cases k))
              clear HXr hv HVa HNb
              generalize (⟨l.toArray⟩ : ByteArray) = S at *
              obtain ⟨⟨z0, z1, z2, z3, z4, z5⟩, hf⟩ := HZ.out
              have f0 := hf 0
              have f1 := hf 1
              have f2 := hf 2
              have f3 := hf 3
              have f4 := hf 4
              have f5 := hf 5
              clear hf
              go_wp2_with fail
              (try simp only [Exit.inBlock, Exit.then])
              refine bodyPost_ret (v := .tuple #[.agg #[.int .i64 0, .int .i64 0, .int .i64 0, .int .i64 0, .int .i64 0, .int .i32 0], .bool false]) (by rw [results_cell_tmp (fn := Tryz.f20) (p := 2) (u := 3) (ty := 25) rfl]; go_simp) rfl ?_
              exact ⟨.inr ⟨HN.out, rfl⟩, putN_below HB.out (Nat.le_refl _) zeroN⟩
            · have HTx := Lib.hid (fun w => textN_ref ((d01, d02), (d11, d12), z, 0) (valid_vn.1 hv) w)
              obtain ⟨n0, n1, n2, n3, n4, n5⟩ := HNb.out
              clear HVa
              go_wp2_with fail
              refine (HTx.out _).mono ?_
              rintro e w10 ⟨rfl, hb⟩
              clear n0 n1 n2 n3 n4 n5
              replace HZ := Lib.hid (HZ.out.keep hb)
              replace HNb := Lib.hid (HNb.out.keep hb)
              replace HB := bel_tr HB hb
              clear hb
              by_cases hs : txtN ((d01, d02), (d11, d12), z, 0) = l
              · have HO : Hid (∃ n, VN n ∧ l = txtN n ∧ nv n = .agg #[.int .i64 d01, .int .i64 d02, .int .i64 d11, .int .i64 d12, .int .i64 z, .int .i32 0]) := ⟨_, valid_vn.1 hv, hs.symm, rfl⟩
                rw [hs]
                clear hv hs HXr HTx
                obtain ⟨n0, n1, n2, n3, n4, n5⟩ := HNb.out
                generalize (⟨l.toArray⟩ : ByteArray) = S at *
                obtain ⟨⟨z0, z1, z2, z3, z4, z5⟩, hf⟩ := HZ.out
                have f0 := hf 0
                have f1 := hf 1
                have f2 := hf 2
                have f3 := hf 3
                have f4 := hf 4
                have f5 := hf 5
                clear hf
                go_wp2_with fail
                (try simp only [Exit.inBlock, Exit.then])
                refine bodyPost_ret (v := .tuple #[nv ((d01, d02), (d11, d12), z, 0), .bool true]) (by rw [results_cell_tmp (fn := Tryz.f20) (p := 2) (u := 3) (ty := 25) rfl]; go_simp) rfl ?_
                exact ⟨by obtain ⟨n, h1, h2, h3⟩ := HO.out; exact .inl ⟨n, h1, h2, by rw [h3]⟩, putN_below HB.out (Nat.le_refl _) ((d01, d02), (d11, d12), z, 0)⟩
              · have hne : ((⟨(txtN ((d01, d02), (d11, d12), z, 0)).toArray⟩ : ByteArray).toList == (⟨l.toArray⟩ : ByteArray).toList) = false := by
                  rw [beq_eq_false_iff_ne]
                  intro h
                  exact hs (by simpa using h)
                have HN : Hid (∀ m, VN m → l ≠ txtN m) := HXr.out (fun h => hs h.2.2.2.2)
                clear hv hs HXr HTx HNb
                generalize (⟨(txtN ((d01, d02), (d11, d12), z, 0)).toArray⟩ : ByteArray) = S2 at *
                generalize (⟨l.toArray⟩ : ByteArray) = S at *
                obtain ⟨⟨z0, z1, z2, z3, z4, z5⟩, hf⟩ := HZ.out
                have f0 := hf 0
                have f1 := hf 1
                have f2 := hf 2
                have f3 := hf 3
                have f4 := hf 4
                have f5 := hf 5
                clear hf
                go_wp2_with fail
                (try simp only [Exit.inBlock, Exit.then])
                refine bodyPost_ret (v := .tuple #[.agg #[.int .i64 0, .int .i64 0, .int .i64 0, .int .i64 0, .int .i64 0, .int .i32 0], .bool false]) (by rw [results_cell_tmp (fn := Tryz.f20) (p := 2) (u := 3) (ty := 25) rfl]; go_simp) rfl ?_
                exact ⟨.inr ⟨HN.out, rfl⟩, putN_below HB.out (Nat.le_refl _) zeroN⟩
      · have hq : ((⟨p3.toArray⟩ : ByteArray).toList == [45]) = false := by rw [beq_eq_false_iff_ne]; intro h; exact hd (by simpa using h)
        have HBy := Lib.hid (fun w => R.rbyname_any p3 w (by have := HP3.out; omega))
        have HDa := Lib.hid hd
        clear hd HPr HP HP0 HP1 HP2 HP3 HTi
        generalize hS3 : (⟨p3.toArray⟩ : ByteArray) = S3 at *
        clear hS3
        go_wp2_with fail
        refine (HBy.out _).mono ?_
        rintro e wy ⟨⟨m, hv, hm, rfl⟩ | ⟨hn, rfl⟩, rfl⟩
        · have hrc : runeC p3 (m : Int) true := .inr (.inl ⟨m, hv, hm, rfl, rfl⟩)
          clear hv hm HBy s0 s1 s2 s3
          have HXr := Lib.hid (HX.out (m : Int) true hrc)
          have hri := runeC_i32 hrc
          have HVa := Lib.hid (fun w => validN_ref ((d01, d02), (d11, d12), z, (m : Int)) hri w)
          clear hrc hri HX
          have HNb := Lib.hid (Nb.new w6 ((d01, d02), (d11, d12), z, (m : Int)))
          have hb := bel_box w6 (.cells #[.int .i64 d01, .int .i64 d02, .int .i64 d11, .int .i64 d12, .int .i64 z, .int .i32 (m : Int)] 25)
          replace HZ := Lib.hid (HZ.out.keep hb)
          replace HB := bel_tr HB hb
          clear hb
          rcases a with _ | _
          · have HN : Hid (∀ m, VN m → l ≠ txtN m) := HXr.out (fun h => by (have k := h.1; cases k))
            clear HXr
            generalize (⟨l.toArray⟩ : ByteArray) = S at *
            obtain ⟨⟨z0, z1, z2, z3, z4, z5⟩, hf⟩ := HZ.out
            have f0 := hf 0
            have f1 := hf 1
            have f2 := hf 2
            have f3 := hf 3
            have f4 := hf 4
            have f5 := hf 5
            clear hf
            go_wp2_with fail
            (try simp only [Exit.inBlock, Exit.then])
            refine bodyPost_ret (v := .tuple #[.agg #[.int .i64 0, .int .i64 0, .int .i64 0, .int .i64 0, .int .i64 0, .int .i32 0], .bool false]) (by rw [results_cell_tmp (fn := Tryz.f20) (p := 2) (u := 3) (ty := 25) rfl]; go_simp) rfl ?_
            exact ⟨.inr ⟨HN.out, rfl⟩, putN_below HB.out (Nat.le_refl _) zeroN⟩
          · rcases b with _ | _
            · have HN : Hid (∀ m, VN m → l ≠ txtN m) := HXr.out (fun h => by (have k := h.2.1; cases k))
              clear HXr
              generalize (⟨l.toArray⟩ : ByteArray) = S at *
              obtain ⟨⟨z0, z1, z2, z3, z4, z5⟩, hf⟩ := HZ.out
              have f0 := hf 0
              have f1 := hf 1
              have f2 := hf 2
              have f3 := hf 3
              have f4 := hf 4
              have f5 := hf 5
              clear hf
              go_wp2_with fail
              (try simp only [Exit.inBlock, Exit.then])
              refine bodyPost_ret (v := .tuple #[.agg #[.int .i64 0, .int .i64 0, .int .i64 0, .int .i64 0, .int .i64 0, .int .i32 0], .bool false]) (by rw [results_cell_tmp (fn := Tryz.f20) (p := 2) (u := 3) (ty := 25) rfl]; go_simp) rfl ?_
              exact ⟨.inr ⟨HN.out, rfl⟩, putN_below HB.out (Nat.le_refl _) zeroN⟩
            · go_wp2_with fail
              generalize w6.alloc (.cells #[.int .i64 d01, .int .i64 d02, .int .i64 d11, .int .i64 d12, .int .i64 z, .int .i32 (m : Int)] 25) = w8 at *
              generalize w6.heap.size = g2 at *
              refine (HVa.out _).mono ?_
              rintro e w9 ⟨rfl, hb⟩
              replace HZ := Lib.hid (HZ.out.keep hb)
              replace HNb := Lib.hid (HNb.out.keep hb)
              replace HB := bel_tr HB hb
              clear hb
              rcases hv : validN ((d01, d02), (d11, d12), z, (m : Int)) with _ | _
              · have HN : Hid (∀ m, VN m → l ≠ txtN m) := HXr.out (fun h => by (have k := h.2.2.2.1; rw [hv] at k; cases k))
                clear HXr hv HVa HNb
                generalize (⟨l.toArray⟩ : ByteArray) = S at *
                obtain ⟨⟨z0, z1, z2, z3, z4, z5⟩, hf⟩ := HZ.out
                have f0 := hf 0
                have f1 := hf 1
                have f2 := hf 2
                have f3 := hf 3
                have f4 := hf 4
                have f5 := hf 5
                clear hf
                go_wp2_with fail
                (try simp only [Exit.inBlock, Exit.then])
                refine bodyPost_ret (v := .tuple #[.agg #[.int .i64 0, .int .i64 0, .int .i64 0, .int .i64 0, .int .i64 0, .int .i32 0], .bool false]) (by rw [results_cell_tmp (fn := Tryz.f20) (p := 2) (u := 3) (ty := 25) rfl]; go_simp) rfl ?_
                exact ⟨.inr ⟨HN.out, rfl⟩, putN_below HB.out (Nat.le_refl _) zeroN⟩
              · have HTx := Lib.hid (fun w => textN_ref ((d01, d02), (d11, d12), z, (m : Int)) (valid_vn.1 hv) w)
                obtain ⟨n0, n1, n2, n3, n4, n5⟩ := HNb.out
                clear HVa
                go_wp2_with fail
                refine (HTx.out _).mono ?_
                rintro e w10 ⟨rfl, hb⟩
                clear n0 n1 n2 n3 n4 n5
                replace HZ := Lib.hid (HZ.out.keep hb)
                replace HNb := Lib.hid (HNb.out.keep hb)
                replace HB := bel_tr HB hb
                clear hb
                by_cases hs : txtN ((d01, d02), (d11, d12), z, (m : Int)) = l
                · have HO : Hid (∃ n, VN n ∧ l = txtN n ∧ nv n = .agg #[.int .i64 d01, .int .i64 d02, .int .i64 d11, .int .i64 d12, .int .i64 z, .int .i32 (m : Int)]) := ⟨_, valid_vn.1 hv, hs.symm, rfl⟩
                  rw [hs]
                  clear hv hs HXr HTx
                  obtain ⟨n0, n1, n2, n3, n4, n5⟩ := HNb.out
                  generalize (⟨l.toArray⟩ : ByteArray) = S at *
                  obtain ⟨⟨z0, z1, z2, z3, z4, z5⟩, hf⟩ := HZ.out
                  have f0 := hf 0
                  have f1 := hf 1
                  have f2 := hf 2
                  have f3 := hf 3
                  have f4 := hf 4
                  have f5 := hf 5
                  clear hf
                  go_wp2_with fail
                  (try simp only [Exit.inBlock, Exit.then])
                  refine bodyPost_ret (v := .tuple #[nv ((d01, d02), (d11, d12), z, (m : Int)), .bool true]) (by rw [results_cell_tmp (fn := Tryz.f20) (p := 2) (u := 3) (ty := 25) rfl]; go_simp) rfl ?_
                  exact ⟨by obtain ⟨n, h1, h2, h3⟩ := HO.out; exact .inl ⟨n, h1, h2, by rw [h3]⟩, putN_below HB.out (Nat.le_refl _) ((d01, d02), (d11, d12), z, (m : Int))⟩
                · have hne : ((⟨(txtN ((d01, d02), (d11, d12), z, (m : Int))).toArray⟩ : ByteArray).toList == (⟨l.toArray⟩ : ByteArray).toList) = false := by
                    rw [beq_eq_false_iff_ne]
                    intro h
                    exact hs (by simpa using h)
                  have HN : Hid (∀ m, VN m → l ≠ txtN m) := HXr.out (fun h => hs h.2.2.2.2)
                  clear hv hs HXr HTx HNb
                  generalize (⟨(txtN ((d01, d02), (d11, d12), z, (m : Int))).toArray⟩ : ByteArray) = S2 at *
                  generalize (⟨l.toArray⟩ : ByteArray) = S at *
                  obtain ⟨⟨z0, z1, z2, z3, z4, z5⟩, hf⟩ := HZ.out
                  have f0 := hf 0
                  have f1 := hf 1
                  have f2 := hf 2
                  have f3 := hf 3
                  have f4 := hf 4
                  have f5 := hf 5
                  clear hf
                  go_wp2_with fail
                  (try simp only [Exit.inBlock, Exit.then])
                  refine bodyPost_ret (v := .tuple #[.agg #[.int .i64 0, .int .i64 0, .int .i64 0, .int .i64 0, .int .i64 0, .int .i32 0], .bool false]) (by rw [results_cell_tmp (fn := Tryz.f20) (p := 2) (u := 3) (ty := 25) rfl]; go_simp) rfl ?_
                  exact ⟨.inr ⟨HN.out, rfl⟩, putN_below HB.out (Nat.le_refl _) zeroN⟩
        · have hrc : runeC p3 0 false := .inr (.inr ⟨HDa.out, hn, rfl, rfl⟩)
          clear hn HBy s0 s1 s2 s3
          have HXr := Lib.hid (HX.out 0 false hrc)
          have hri := runeC_i32 hrc
          have HVa := Lib.hid (fun w => validN_ref ((d01, d02), (d11, d12), z, 0) hri w)
          clear hrc hri HX
          have HNb := Lib.hid (Nb.new w6 ((d01, d02), (d11, d12), z, 0))
          have hb := bel_box w6 (.cells #[.int .i64 d01, .int .i64 d02, .int .i64 d11, .int .i64 d12, .int .i64 z, .int .i32 0] 25)
          replace HZ := Lib.hid (HZ.out.keep hb)
          replace HB := bel_tr HB hb
          clear hb
          rcases a with _ | _
          · have HN : Hid (∀ m, VN m → l ≠ txtN m) := HXr.out (fun h => by (have k := h.1; cases k))
            clear HXr
            generalize (⟨l.toArray⟩ : ByteArray) = S at *
            obtain ⟨⟨z0, z1, z2, z3, z4, z5⟩, hf⟩ := HZ.out
            have f0 := hf 0
            have f1 := hf 1
            have f2 := hf 2
            have f3 := hf 3
            have f4 := hf 4
            have f5 := hf 5
            clear hf
            go_wp2_with fail
            (try simp only [Exit.inBlock, Exit.then])
            refine bodyPost_ret (v := .tuple #[.agg #[.int .i64 0, .int .i64 0, .int .i64 0, .int .i64 0, .int .i64 0, .int .i32 0], .bool false]) (by rw [results_cell_tmp (fn := Tryz.f20) (p := 2) (u := 3) (ty := 25) rfl]; go_simp) rfl ?_
            exact ⟨.inr ⟨HN.out, rfl⟩, putN_below HB.out (Nat.le_refl _) zeroN⟩
          · rcases b with _ | _
            · have HN : Hid (∀ m, VN m → l ≠ txtN m) := HXr.out (fun h => by (have k := h.2.1; cases k))
              clear HXr
              generalize (⟨l.toArray⟩ : ByteArray) = S at *
              obtain ⟨⟨z0, z1, z2, z3, z4, z5⟩, hf⟩ := HZ.out
              have f0 := hf 0
              have f1 := hf 1
              have f2 := hf 2
              have f3 := hf 3
              have f4 := hf 4
              have f5 := hf 5
              clear hf
              go_wp2_with fail
              (try simp only [Exit.inBlock, Exit.then])
              refine bodyPost_ret (v := .tuple #[.agg #[.int .i64 0, .int .i64 0, .int .i64 0, .int .i64 0, .int .i64 0, .int .i32 0], .bool false]) (by rw [results_cell_tmp (fn := Tryz.f20) (p := 2) (u := 3) (ty := 25) rfl]; go_simp) rfl ?_
              exact ⟨.inr ⟨HN.out, rfl⟩, putN_below HB.out (Nat.le_refl _) zeroN⟩
            · have HN : Hid (∀ m, VN m → l ≠ txtN m) := HXr.out (fun h => by (have k := h.2.2.1; cases k))
              clear HXr
              generalize (⟨l.toArray⟩ : ByteArray) = S at *
              obtain ⟨⟨z0, z1, z2, z3, z4, z5⟩, hf⟩ := HZ.out
              have f0 := hf 0
              have f1 := hf 1
              have f2 := hf 2
              have f3 := hf 3
              have f4 := hf 4
              have f5 := hf 5
              clear hf
              go_wp2_with fail
              (try simp only [Exit.inBlock, Exit.then])
              refine bodyPost_ret (v := .tuple #[.agg #[.int .i64 0, .int .i64 0, .int .i64 0, .int .i64 0, .int .i64 0, .int .i32 0], .bool false]) (by rw [results_cell_tmp (fn := Tryz.f20) (p := 2) (u := 3) (ty := 25) rfl]; go_simp) rfl ?_
              exact ⟨.inr ⟨HN.out, rfl⟩, putN_below HB.out (Nat.le_refl _) zeroN⟩
    · refine Sch.tn_e rfl rfl (fun K hK => ?_)
      go_wp2_with fail
      refine hK _ _ (HPS.out.keep (bel_box w6 (.cells #[.int .i64 0, .int .i64 0, .int .i64 0, .int .i64 0, .int .i64 0, .int .i32 0] 25))) ?_
      clear hK K
      refine Sch.tn_e rfl rfl (fun K hK => ?_)
      go_wp2_with fail
      refine (HTi.out _).mono ?_
      rintro e wt ⟨rfl, rfl⟩
      refine hK _ _ (HPS.out.keep (bel_box w6 (.cells #[.int .i64 0, .int .i64 0, .int .i64 0, .int .i64 0, .int .i64 0, .int .i32 0] 25))) ?_
      clear hK K
      refine Sch.tn_q rfl rfl rfl (fun K hK => ?_)
      go_big_quiet_op
      first | refine hK _ ?_ | refine ⟨_, fun _ _ => rfl, hK _ ?_⟩
      clear hK K
      refine Sch.tn_e rfl rfl (fun K hK => ?_)
      go_wp2_with fail
      refine hK _ _ (HPS.out.keep (bel_box w6 (.cells #[.int .i64 d01, .int .i64 d02, .int .i64 d11, .int .i64 d12, .int .i64 z, .int .i32 0] 25))) ?_
      clear hK K
      refine Sch.tn_n ?_
      have HP := Lib.hid (HPS.out.keep (bel_box w6 (.cells #[.int .i64 d01, .int .i64 d02, .int .i64 d11, .int .i64 d12, .int .i64 z, .int .i32 0] 25)))
      obtain ⟨-, -, s0, s1, s2, s3⟩ := HP.out
      have HPr := Lib.hid HPS.out
      clear HPS
      by_cases hd : p3 = [45]
      · have hrc : runeC p3 0 true := .inl ⟨hd, rfl, rfl⟩
        have hq : ((⟨p3.toArray⟩ : ByteArray).toList == [45]) = true := by rw [beq_iff_eq, hd]; simp
        clear hd HPr HP HP0 HP1 HP2 HP3 HTi
        generalize (⟨p3.toArray⟩ : ByteArray) = S3 at *
        have HXr := Lib.hid (HX.out 0 true hrc)
        have hri := runeC_i32 hrc
        have HVa := Lib.hid (fun w => validN_ref ((d01, d02), (d11, d12), z, 0) hri w)
        clear hrc hri HX
        have HNb := Lib.hid (Nb.new w6 ((d01, d02), (d11, d12), z, 0))
        have hb := bel_box w6 (.cells #[.int .i64 d01, .int .i64 d02, .int .i64 d11, .int .i64 d12, .int .i64 z, .int .i32 0] 25)
        replace HZ := Lib.hid (HZ.out.keep hb)
        replace HB := bel_tr HB hb
        clear hb
        rcases a with _ | _
        · have HN : Hid (∀ m, VN m → l ≠ txtN m) := HXr.out (fun h => by (have k := h.1; cases k))
          clear HXr
          generalize (⟨l.toArray⟩ : ByteArray) = S at *
          obtain ⟨⟨z0, z1, z2, z3, z4, z5⟩, hf⟩ := HZ.out
          have f0 := hf 0
          have f1 := hf 1
          have f2 := hf 2
          have f3 := hf 3
          have f4 := hf 4
          have f5 := hf 5
          clear hf
          go_wp2_with fail
          (try simp only [Exit.inBlock, Exit.then])
          refine bodyPost_ret (v := .tuple #[.agg #[.int .i64 0, .int .i64 0, .int .i64 0, .int .i64 0, .int .i64 0, .int .i32 0], .bool false]) (by rw [results_cell_tmp (fn := Tryz.f20) (p := 2) (u := 3) (ty := 25) rfl]; go_simp) rfl ?_
          exact ⟨.inr ⟨HN.out, rfl⟩, putN_below HB.out (Nat.le_refl _) zeroN⟩
        · rcases b with _ | _
          · have HN : Hid (∀ m, VN m → l ≠ txtN m) := HXr.out (fun h => by (have k := h.2.1; cases k))
            clear HXr
            generalize (⟨l.toArray⟩ : ByteArray) = S at *
            obtain ⟨⟨z0, z1, z2, z3, z4, z5⟩, hf⟩ := HZ.out
            have f0 := hf 0
            have f1 := hf 1
            have f2 := hf 2
            have f3 := hf 3
            have f4 := hf 4
            have f5 := hf 5
            clear hf
            go_wp2_with fail
            (try simp only [Exit.inBlock, Exit.then])
            refine bodyPost_ret (v := .tuple #[.agg #[.int .i64 0, .int .i64 0, .int .i64 0, .int .i64 0, .int .i64 0, .int .i32 0], .bool false]) (by rw [results_cell_tmp (fn := Tryz.f20) (p := 2) (u := 3) (ty := 25) rfl]; go_simp) rfl ?_
            exact ⟨.inr ⟨HN.out, rfl⟩, putN_below HB.out (Nat.le_refl _) zeroN⟩
          · go_wp2_with fail
            generalize w6.alloc (.cells #[.int .i64 d01, .int .i64 d02, .int .i64 d11, .int .i64 d12, .int .i64 z, .int .i32 0] 25) = w8 at *
            generalize w6.heap.size = g2 at *
            refine (HVa.out _).mono ?_
            rintro e w9 ⟨rfl, hb⟩
            replace HZ := Lib.hid (HZ.out.keep hb)
            replace HNb := Lib.hid (HNb.out.keep hb)
            replace HB := bel_tr HB hb
            clear hb
            rcases hv : validN ((d01, d02), (d11, d12), z, 0) with _ | _
            · have HN : Hid (∀ m, VN m → l ≠ txtN m) := HXr.out (fun h => by (have k := h.2.2.2.1; rw [hv] at k; cases k))
              clear HXr hv HVa HNb
              generalize (⟨l.toArray⟩ : ByteArray) = S at *
              obtain ⟨⟨z0, z1, z2, z3, z4, z5⟩, hf⟩ := HZ.out
              have f0 := hf 0
              have f1 := hf 1
              have f2 := hf 2
              have f3 := hf 3
              have f4 := hf 4
              have f5 := hf 5
              clear hf
              go_wp2_with fail
              (try simp only [Exit.inBlock, Exit.then])
              refine bodyPost_ret (v := .tuple #[.agg #[.int .i64 0, .int .i64 0, .int .i64 0, .int .i64 0, .int .i64 0, .int .i32 0], .bool false]) (by rw [results_cell_tmp (fn := Tryz.f20) (p := 2) (u := 3) (ty := 25) rfl]; go_simp) rfl ?_
              exact ⟨.inr ⟨HN.out, rfl⟩, putN_below HB.out (Nat.le_refl _) zeroN⟩
            · have HTx := Lib.hid (fun w => textN_ref ((d01, d02), (d11, d12), z, 0) (valid_vn.1 hv) w)
              obtain ⟨n0, n1, n2, n3, n4, n5⟩ := HNb.out
              clear HVa
              go_wp2_with fail
              refine (HTx.out _).mono ?_
              rintro e w10 ⟨rfl, hb⟩
              clear n0 n1 n2 n3 n4 n5
              replace HZ := Lib.hid (HZ.out.keep hb)
              replace HNb := Lib.hid (HNb.out.keep hb)
              replace HB := bel_tr HB hb
              clear hb
              by_cases hs : txtN ((d01, d02), (d11, d12), z, 0) = l
              · have HO : Hid (∃ n, VN n ∧ l = txtN n ∧ nv n = .agg #[.int .i64 d01, .int .i64 d02, .int .i64 d11, .int .i64 d12, .int .i64 z, .int .i32 0]) := ⟨_, valid_vn.1 hv, hs.symm, rfl⟩
                rw [hs]
                clear hv hs HXr HTx
                obtain ⟨n0, n1, n2, n3, n4, n5⟩ := HNb.out
                generalize (⟨l.toArray⟩ : ByteArray) = S at *
                obtain ⟨⟨z0, z1, z2, z3, z4, z5⟩, hf⟩ := HZ.out
                have f0 := hf 0
                have f1 := hf 1
                have f2 := hf 2
                have f3 := hf 3
                have f4 := hf 4
                have f5 := hf 5
                clear hf
                go_wp2_with fail
                (try simp only [Exit.inBlock, Exit.then])
                refine bodyPost_ret (v := .tuple #[nv ((d01, d02), (d11, d12), z, 0), .bool true]) (by rw [results_cell_tmp (fn := Tryz.f20) (p := 2) (u := 3) (ty := 25) rfl]; go_simp) rfl ?_
                exact ⟨by obtain ⟨n, h1, h2, h3⟩ := HO.out; exact .inl ⟨n, h1, h2, by rw [h3]⟩, putN_below HB.out (Nat.le_refl _) ((d01, d02), (d11, d12), z, 0)⟩
              · have hne : ((⟨(txtN ((d01, d02), (d11, d12), z, 0)).toArray⟩ : ByteArray).toList == (⟨l.toArray⟩ : ByteArray).toList) = false := by
                  rw [beq_eq_false_iff_ne]
                  intro h
                  exact hs (by simpa using h)
                have HN : Hid (∀ m, VN m → l ≠ txtN m) := HXr.out (fun h => hs h.2.2.2.2)
                clear hv hs HXr HTx HNb
                generalize (⟨(txtN ((d01, d02), (d11, d12), z, 0)).toArray⟩ : ByteArray) = S2 at *
                generalize (⟨l.toArray⟩ : ByteArray) = S at *
                obtain ⟨⟨z0, z1, z2, z3, z4, z5⟩, hf⟩ := HZ.out
                have f0 := hf 0
                have f1 := hf 1
                have f2 := hf 2
                have f3 := hf 3
                have f4 := hf 4
                have f5 := hf 5
                clear hf
                go_wp2_with fail
                (try simp only [Exit.inBlock, Exit.then])
                refine bodyPost_ret (v := .tuple #[.agg #[.int .i64 0, .int .i64 0, .int .i64 0, .int .i64 0, .int .i64 0, .int .i32 0], .bool false]) (by rw [results_cell_tmp (fn := Tryz.f20) (p := 2) (u := 3) (ty := 25) rfl]; go_simp) rfl ?_
                exact ⟨.inr ⟨HN.out, rfl⟩, putN_below HB.out (Nat.le_refl _) zeroN⟩
      · have hq : ((⟨p3.toArray⟩ : ByteArray).toList == [45]) = false := by rw [beq_eq_false_iff_ne]; intro h; exact hd (by simpa using h)
        have HBy := Lib.hid (fun w => R.rbyname_any p3 w (by have := HP3.out; omega))
        have HDa := Lib.hid hd
        clear hd HPr HP HP0 HP1 HP2 HP3 HTi
        generalize hS3 : (⟨p3.toArray⟩ : ByteArray) = S3 at *
        clear hS3
        go_wp2_with fail
        refine (HBy.out _).mono ?_
        rintro e wy ⟨⟨m, hv, hm, rfl⟩ | ⟨hn, rfl⟩, rfl⟩
        · have hrc : runeC p3 (m : Int) true := .inr (.inl ⟨m, hv, hm, rfl, rfl⟩)
          clear hv hm HBy s0 s1 s2 s3
          have HXr := Lib.hid (HX.out (m : Int) true hrc)
          have hri := runeC_i32 hrc
          have HVa := Lib.hid (fun w => validN_ref ((d01, d02), (d11, d12), z, (m : Int)) hri w)
          clear hrc hri HX
          have HNb := Lib.hid (Nb.new w6 ((d01, d02), (d11, d12), z, (m : Int)))
          have hb := bel_box w6 (.cells #[.int .i64 d01, .int .i64 d02, .int .i64 d11, .int .i64 d12, .int .i64 z, .int .i32 (m : Int)] 25)
          replace HZ := Lib.hid (HZ.out.keep hb)
          replace HB := bel_tr HB hb
          clear hb
          rcases a with _ | _
          · have HN : Hid (∀ m, VN m → l ≠ txtN m) := HXr.out (fun h => by (have k := h.1; cases k))
            clear HXr
            generalize (⟨l.toArray⟩ : ByteArray) = S at *
            obtain ⟨⟨z0, z1, z2, z3, z4, z5⟩, hf⟩ := HZ.out
            have f0 := hf 0
            have f1 := hf 1
            have f2 := hf 2
            have f3 := hf 3
            have f4 := hf 4
            have f5 := hf 5
            clear hf
            go_wp2_with fail
            (try simp only [Exit.inBlock, Exit.then])
            refine bodyPost_ret (v := .tuple #[.agg #[.int .i64 0, .int .i64 0, .int .i64 0, .int .i64 0, .int .i64 0, .int .i32 0], .bool false]) (by rw [results_cell_tmp (fn := Tryz.f20) (p := 2) (u := 3) (ty := 25) rfl]; go_simp) rfl ?_
            exact ⟨.inr ⟨HN.out, rfl⟩, putN_below HB.out (Nat.le_refl _) zeroN⟩
          · rcases b with _ | _
            · have HN : Hid (∀ m, VN m → l ≠ txtN m) := HXr.out (fun h => by (have k := h.2.1; cases k))
              clear HXr
              generalize (⟨l.toArray⟩ : ByteArray) = S at *
              obtain ⟨⟨z0, z1, z2, z3, z4, z5⟩, hf⟩ := HZ.out
              have f0 := hf 0
              have f1 := hf 1
              have f2 := hf 2
              have f3 := hf 3
              have f4 := hf 4
              have f5 := hf 5
              clear hf
              go_wp2_with fail
              (try simp only [Exit.inBlock, Exit.then])
              refine bodyPost_ret (v := .tuple #[.agg #[.int .i64 0, .int .i64 0, .int .i64 0, .int .i64 0, .int .i64 0, .int .i32 0], .bool false]) (by rw [results_cell_tmp (fn := Tryz.f20) (p := 2) (u := 3) (ty := 25) rfl]; go_simp) rfl ?_
              exact ⟨.inr ⟨HN.out, rfl⟩, putN_below HB.out (Nat.le_refl _) zeroN⟩
            · go_wp2_with fail
              generalize w6.alloc (.cells #[.int .i64 d01, .int .i64 d02, .int .i64 d11, .int .i64 d12, .int .i64 z, .int .i32 (m : Int)] 25) = w8 at *
              generalize w6.heap.size = g2 at *
              refine (HVa.out _).mono ?_
              rintro e w9 ⟨rfl, hb⟩
              replace HZ := Lib.hid (HZ.out.keep hb)
              replace HNb := Lib.hid (HNb.out.keep hb)
              replace HB := bel_tr HB hb
              clear hb
              rcases hv : validN ((d01, d02), (d11, d12), z, (m : Int)) with _ | _
              · have HN : Hid (∀ m, VN m → l ≠ txtN m) := HXr.out (fun h => by (have k := h.2.2.2.1; rw [hv] at k; cases k))
                clear HXr hv HVa HNb
                generalize (⟨l.toArray⟩ : ByteArray) = S at *
                obtain ⟨⟨z0, z1, z2, z3, z4, z5⟩, hf⟩ := HZ.out
                have f0 := hf 0
                have f1 := hf 1
                have f2 := hf 2
                have f3 := hf 3
                have f4 := hf 4
                have f5 := hf 5
                clear hf
                go_wp2_with fail
                (try simp only [Exit.inBlock, Exit.then])
                refine bodyPost_ret (v := .tuple #[.agg #[.int .i64 0, .int .i64 0, .int .i64 0, .int .i64 0, .int .i64 0, .int .i32 0], .bool false]) (by rw [results_cell_tmp (fn := Tryz.f20) (p := 2) (u := 3) (ty := 25) rfl]; go_simp) rfl ?_
                exact ⟨.inr ⟨HN.out, rfl⟩, putN_below HB.out (Nat.le_refl _) zeroN⟩
              · have HTx := Lib.hid (fun w => textN_ref ((d01, d02), (d11, d12), z, (m : Int)) (valid_vn.1 hv) w)
                obtain ⟨n0, n1, n2, n3, n4, n5⟩ := HNb.out
                clear HVa
                go_wp2_with fail
                refine (HTx.out _).mono ?_
                rintro e w10 ⟨rfl, hb⟩
                clear n0 n1 n2 n3 n4 n5
                replace HZ := Lib.hid (HZ.out.keep hb)
                replace HNb := Lib.hid (HNb.out.keep hb)
                replace HB := bel_tr HB hb
                clear hb
                by_cases hs : txtN ((d01, d02), (d11, d12), z, (m : Int)) = l
                · have HO : Hid (∃ n, VN n ∧ l = txtN n ∧ nv n = .agg #[.int .i64 d01, .int .i64 d02, .int .i64 d11, .int .i64 d12, .int .i64 z, .int .i32 (m : Int)]) := ⟨_, valid_vn.1 hv, hs.symm, rfl⟩
                  rw [hs]
                  clear hv hs HXr HTx
                  obtain ⟨n0, n1, n2, n3, n4, n5⟩ := HNb.out
                  generalize (⟨l.toArray⟩ : ByteArray) = S at *
                  obtain ⟨⟨z0, z1, z2, z3, z4, z5⟩, hf⟩ := HZ.out
                  have f0 := hf 0
                  have f1 := hf 1
                  have f2 := hf 2
                  have f3 := hf 3
                  have f4 := hf 4
                  have f5 := hf 5
                  clear hf
                  go_wp2_with fail
                  (try simp only [Exit.inBlock, Exit.then])
                  refine bodyPost_ret (v := .tuple #[nv ((d01, d02), (d11, d12), z, (m : Int)), .bool true]) (by rw [results_cell_tmp (fn := Tryz.f20) (p := 2) (u := 3) (ty := 25) rfl]; go_simp) rfl ?_
                  exact ⟨by obtain ⟨n, h1, h2, h3⟩ := HO.out; exact .inl ⟨n, h1, h2, by rw [h3]⟩, putN_below HB.out (Nat.le_refl _) ((d01, d02), (d11, d12), z, (m : Int))⟩
                · have hne : ((⟨(txtN ((d01, d02), (d11, d12), z, (m : Int))).toArray⟩ : ByteArray).toList == (⟨l.toArray⟩ : ByteArray).toList) = false := by
                    rw [beq_eq_false_iff_ne]
                    intro h
                    exact hs (by simpa using h)
                  have HN : Hid (∀ m, VN m → l ≠ txtN m) := HXr.out (fun h => hs h.2.2.2.2)
                  clear hv hs HXr HTx HNb
                  generalize (⟨(txtN ((d01, d02), (d11, d12), z, (m : Int))).toArray⟩ : ByteArray) = S2 at *
                  generalize (⟨l.toArray⟩ : ByteArray) = S at *
                  obtain ⟨⟨z0, z1, z2, z3, z4, z5⟩, hf⟩ := HZ.out
                  have f0 := hf 0
                  have f1 := hf 1
                  have f2 := hf 2
                  have f3 := hf 3
                  have f4 := hf 4
                  have f5 := hf 5
                  clear hf
                  go_wp2_with fail
                  (try simp only [Exit.inBlock, Exit.then])
                  refine bodyPost_ret (v := .tuple #[.agg #[.int .i64 0, .int .i64 0, .int .i64 0, .int .i64 0, .int .i64 0, .int .i32 0], .bool false]) (by rw [results_cell_tmp (fn := Tryz.f20) (p := 2) (u := 3) (ty := 25) rfl]; go_simp) rfl ?_
                  exact ⟨.inr ⟨HN.out, rfl⟩, putN_below HB.out (Nat.le_refl _) zeroN⟩
        · have hrc : runeC p3 0 false := .inr (.inr ⟨HDa.out, hn, rfl, rfl⟩)
          clear hn HBy s0 s1 s2 s3
          have HXr := Lib.hid (HX.out 0 false hrc)
          have hri := runeC_i32 hrc
          have HVa := Lib.hid (fun w => validN_ref ((d01, d02), (d11, d12), z, 0) hri w)
          clear hrc hri HX
          have HNb := Lib.hid (Nb.new w6 ((d01, d02), (d11, d12), z, 0))
          have hb := bel_box w6 (.cells #[.int .i64 d01, .int .i64 d02, .int .i64 d11, .int .i64 d12, .int .i64 z, .int .i32 0] 25)
          replace HZ := Lib.hid (HZ.out.keep hb)
          replace HB := bel_tr HB hb
          clear hb
          rcases a with _ | _
          · have HN : Hid (∀ m, VN m → l ≠ txtN m) := HXr.out (fun h => by (have k := h.1; cases k))
            clear HXr
            generalize (⟨l.toArray⟩ : ByteArray) = S at *
            obtain ⟨⟨z0, z1, z2, z3, z4, z5⟩, hf⟩ := HZ.out
            have f0 := hf 0
            have f1 := hf 1
            have f2 := hf 2
            have f3 := hf 3
            have f4 := hf 4
            have f5 := hf 5
            clear hf
            go_wp2_with fail
            (try simp only [Exit.inBlock, Exit.then])
            refine bodyPost_ret (v := .tuple #[.agg #[.int .i64 0, .int .i64 0, .int .i64 0, .int .i64 0, .int .i64 0, .int .i32 0], .bool false]) (by rw [results_cell_tmp (fn := Tryz.f20) (p := 2) (u := 3) (ty := 25) rfl]; go_simp) rfl ?_
            exact ⟨.inr ⟨HN.out, rfl⟩, putN_below HB.out (Nat.le_refl _) zeroN⟩
          · rcases b with _ | _
            · have HN : Hid (∀ m, VN m → l ≠ txtN m) := HXr.out (fun h => by (have k := h.2.1; cases k))
              clear HXr
              generalize (⟨l.toArray⟩ : ByteArray) = S at *
              obtain ⟨⟨z0, z1, z2, z3, z4, z5⟩, hf⟩ := HZ.out
              have f0 := hf 0
              have f1 := hf 1
              have f2 := hf 2
              have f3 := hf 3
              have f4 := hf 4
              have f5 := hf 5
              clear hf
              go_wp2_with fail
              (try simp only [Exit.inBlock, Exit.then])
              refine bodyPost_ret (v := .tuple #[.agg #[.int .i64 0, .int .i64 0, .int .i64 0, .int .i64 0, .int .i64 0, .int .i32 0], .bool false]) (by rw [results_cell_tmp (fn := Tryz.f20) (p := 2) (u := 3) (ty := 25) rfl]; go_simp) rfl ?_
              exact ⟨.inr ⟨HN.out, rfl⟩, putN_below HB.out (Nat.le_refl _) zeroN⟩
            · have HN : Hid (∀ m, VN m → l ≠ txtN m) := HXr.out (fun h => by (have k := h.2.2.1; cases k))
              clear HXr
              generalize (⟨l.toArray⟩ : ByteArray) = S at *
              obtain ⟨⟨z0, z1, z2, z3, z4, z5⟩, hf⟩ := HZ.out
              have f0 := hf 0
              have f1 := hf 1
              have f2 := hf 2
              have f3 := hf 3
              have f4 := hf 4
              have f5 := hf 5
              clear hf
              go_wp2_with fail
              (try simp only [Exit.inBlock, Exit.then])
              refine bodyPost_ret (v := .tuple #[.agg #[.int .i64 0, .int .i64 0, .int .i64 0, .int .i64 0, .int .i64 0, .int .i32 0], .bool false]) (by rw [results_cell_tmp (fn := Tryz.f20) (p := 2) (u := 3) (ty := 25) rfl]; go_simp) rfl ?_
              exact ⟨.inr ⟨HN.out, rfl⟩, putN_below HB.out (Nat.le_refl _) zeroN⟩
  · have hne : (((wordsL l).length : Int) != 4) = true := by rw [bne_iff_ne]; omega
    have HN : Hid (∀ n, VN n → l ≠ txtN n) := not_four h4
    clear h4 hrow
    generalize (wordsL l).length = k at *
    obtain ⟨⟨z0, z1, z2, z3, z4, z5⟩, hf⟩ := HZ.out
    have f0 := hf 0
    have f1 := hf 1
    have f2 := hf 2
    have f3 := hf 3
    have f4 := hf 4
    have f5 := hf 5
    clear hf
    go_wp2_with fail
    (try simp only [Exit.inBlock, Exit.then])
    refine bodyPost_ret (v := .tuple #[.agg #[.int .i64 0, .int .i64 0, .int .i64 0, .int .i64 0, .int .i64 0, .int .i32 0], .bool false]) (by rw [results_cell_tmp (fn := Tryz.f20) (p := 2) (u := 3) (ty := 25) rfl]; go_simp) rfl ?_
    exact ⟨.inr ⟨HN.out, rfl⟩, putN_below HB.out (Nat.le_refl _) zeroN⟩
end Go.Proofs.YtmmcnpcijeahcabGreatDoor.Nd
