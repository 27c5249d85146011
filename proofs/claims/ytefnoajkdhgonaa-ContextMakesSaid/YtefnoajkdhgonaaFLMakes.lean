/-
  The third law: the contexts of dots, and of a context and dots.
-/
import Derived.Test.YtefnoajkdhgonaaFKnown
namespace Go.Proofs.Ytefnoajkdhgonaa.F
set_option linter.unusedVariables false
open Go.RowKit V Go.Sort D
open E (SV SV.nil SV.keep SV.of_od)

set_option maxRecDepth 100000 in
set_option maxHeartbeats 8000000 in
theorem makes_law (xs ys l : List Dt) (a b p : Option Addr) (n m j : Nat) (w : World) (hx : RowD w a xs) (hy : RowD w b ys) (hl : RowD w p l) (hna : a = none → n = 0) (hnb : b = none → m = 0) (hnp : p = none → j = 0) (hla : xs.length ≤ n) (hlx : xs.length ≤ 9223372036854775807) (hly : ys.length ≤ 9223372036854775807) (hll : l.length ≤ 9223372036854775807) :
    Calls Try.prog 5 #[cv (.slice a xs.length n) (.slice b ys.length m), .slice p l.length j] w fun e w' => e = .returned (.bool true) ∧ Below w.heap.size w w' := by
  have HKn := Lib.hid (fun w => known_any w)
  have HK := Lib.hid (show Sb w.heap.size (.slice a xs.length n) (.slice b ys.length m) _ from two_new w (.slice a xs.length n) (.slice b ys.length m))
  have HB := Lib.hid (bel_box w (cbox (.slice a xs.length n) (.slice b ys.length m)))
  have HX := Lib.hid (hx.keep HB.out)
  have HY := Lib.hid (hy.keep HB.out)
  have HL := Lib.hid (hl.keep HB.out)
  have HN1 := Lib.hid hna
  have HN2 := Lib.hid hnb
  have HN3 := Lib.hid hnp
  have HA1 := Lib.hid hla
  have HLi := Lib.hid (fun w => light_any xs ys a b n m w)
  clear hx hy hl hna hnb hnp hla
  have k0 := HK.out.1
  have k1 := HK.out.2
  by_cases h1 : xs.length ≤ 40 ∧ ys.length ≤ 40
  · rw [show decide (xs.length ≤ 40 ∧ ys.length ≤ 40) = true by simpa using h1] at HLi
    by_cases h2 : 40 < l.length
    · have hg : (40 : Int) < (l.length : Int) := by omega
      clear h1 h2 hlx hly hll
      go_enter Try.func5, Try.ntmps5
      go_wp2_with fail
      generalize w.alloc (cbox (.slice a xs.length n) (.slice b ys.length m)) = w1 at *
      refine (HLi.out _).mono ?_
      rintro e w2 ⟨rfl, hb⟩
      replace HX := Lib.hid (HX.out.keep hb)
      replace HY := Lib.hid (HY.out.keep hb)
      replace HL := Lib.hid (HL.out.keep hb)
      replace HK := Lib.hid (HK.out.keep hb)
      replace HB := bel_tr HB hb
      clear hb
      clear k0 k1
      have k0 := HK.out.1
      have k1 := HK.out.2
      go_wp2_with fail
      refine (HKn.out _).mono ?_
      rintro e w3 ⟨rfl, hb⟩
      replace HX := Lib.hid (HX.out.keep hb)
      replace HY := Lib.hid (HY.out.keep hb)
      replace HL := Lib.hid (HL.out.keep hb)
      replace HK := Lib.hid (HK.out.keep hb)
      replace HB := bel_tr HB hb
      clear hb
      go_wp2_with fail
      go_ret
      exact ⟨rfl, HB.out⟩
    · have hg : ¬ (40 : Int) < (l.length : Int) := by omega
      have HD := Lib.hid (fun w hx => dots_ref l p j w hx (by omega))
      have HV := Lib.hid (fun w h1 h2 => valid_ref xs ys a b n m w h1 h2 (by omega) (by omega))
      have HMt := Lib.hid (fun p j u v C z w hx hu hv hl h => made_true l p j u v C z w hx (by omega) hu hv hl h)
      have HAt := Lib.hid (fun a b p n m j u v C z w hx hy hl0 e1 e2 hu hv hl h => added_true xs ys a b n m l p j u v C z w hx hy hl0 e1 e2 (by omega) (by omega) (by omega) hu hv hl h)
      rcases hd : l.all validR with _ | _
      · rw [hd] at HD
        have HM := Lib.hid (made_no hd)
        have HA := Lib.hid (add_no2 (c := (xs, ys)) hd)
        clear hd h1 h2 hlx hly hll
        go_enter Try.func5, Try.ntmps5
        go_wp2_with fail
        generalize w.alloc (cbox (.slice a xs.length n) (.slice b ys.length m)) = w1 at *
        refine (HLi.out _).mono ?_
        rintro e w2 ⟨rfl, hb⟩
        replace HX := Lib.hid (HX.out.keep hb)
        replace HY := Lib.hid (HY.out.keep hb)
        replace HL := Lib.hid (HL.out.keep hb)
        replace HK := Lib.hid (HK.out.keep hb)
        replace HB := bel_tr HB hb
        clear hb
        clear k0 k1
        have k0 := HK.out.1
        have k1 := HK.out.2
        go_wp2_with fail
        refine (HD.out _ HL.out).mono ?_
        rintro e w3 ⟨rfl, hb⟩
        replace HX := Lib.hid (HX.out.keep hb)
        replace HY := Lib.hid (HY.out.keep hb)
        replace HL := Lib.hid (HL.out.keep hb)
        replace HK := Lib.hid (HK.out.keep hb)
        replace HB := bel_tr HB hb
        clear hb
        clear k0 k1
        have k0 := HK.out.1
        have k1 := HK.out.2
        go_wp2_with fail
        refine (HMt.out p j (.slice none 0 0) (.slice none 0 0) ([], []) 2 _ HL.out (SV.nil _) (SV.nil _) (by decide) HM.out).mono ?_
        rintro e w4 ⟨rfl, hb⟩
        replace HX := Lib.hid (HX.out.keep hb)
        replace HY := Lib.hid (HY.out.keep hb)
        replace HL := Lib.hid (HL.out.keep hb)
        replace HK := Lib.hid (HK.out.keep hb)
        replace HB := bel_tr HB hb
        clear hb
        clear k0 k1
        have k0 := HK.out.1
        have k1 := HK.out.2
        go_wp2_with fail
        refine (HAt.out a b p n m j (.slice none 0 0) (.slice none 0 0) ([], []) 2 _ HX.out HY.out HL.out HN1.out HN2.out (SV.nil _) (SV.nil _) (by decide) HA.out).mono ?_
        rintro e w5 ⟨rfl, hb⟩
        replace HX := Lib.hid (HX.out.keep hb)
        replace HY := Lib.hid (HY.out.keep hb)
        replace HL := Lib.hid (HL.out.keep hb)
        replace HK := Lib.hid (HK.out.keep hb)
        replace HB := bel_tr HB hb
        clear hb
        clear k0 k1
        have k0 := HK.out.1
        have k1 := HK.out.2
        go_wp2_with fail
        refine (HKn.out _).mono ?_
        rintro e w6 ⟨rfl, hb⟩
        replace HX := Lib.hid (HX.out.keep hb)
        replace HY := Lib.hid (HY.out.keep hb)
        replace HL := Lib.hid (HL.out.keep hb)
        replace HK := Lib.hid (HK.out.keep hb)
        replace HB := bel_tr HB hb
        clear hb
        go_wp2_with fail
        go_ret
        exact ⟨rfl, HB.out⟩
      · rw [hd] at HD
        have hdv : ∀ x ∈ l, validR x = true := List.all_eq_true.1 hd
        have HM := Lib.hid (made_eq hdv)
        have hvn : Vc ([], []) := ⟨E.vd_nil, srt_nil, fun x hx => by simp at hx⟩
        have HR0 := Lib.hid (fun w h => add_ref [] [] l none none p 0 0 j w hvn hdv (.inl rfl) (.inl rfl) h (fun _ => rfl) (Nat.le_refl _) (by simp) (by simp) (by omega))
        have hl0 := add_len hvn hdv
        have HL0 : Hid ((addC ([], []) l).1.length ≤ 1000000 ∧ (addC ([], []) l).2.length ≤ 1000000) := ⟨Nat.le_trans hl0.1 (by omega), Nat.le_trans hl0.2 (by simp; omega)⟩
        generalize addC ([], []) l = C0 at *
        rcases hv : validC (xs, ys) with _ | _
        · rw [hv] at HV
          have HA := Lib.hid (add_no1 (l := l) hv)
          clear hd hdv hv h1 h2 hlx hly hll hvn hl0
          go_enter Try.func5, Try.ntmps5
          go_wp2_with fail
          generalize w.alloc (cbox (.slice a xs.length n) (.slice b ys.length m)) = w1 at *
          refine (HLi.out _).mono ?_
          rintro e w2 ⟨rfl, hb⟩
          replace HX := Lib.hid (HX.out.keep hb)
          replace HY := Lib.hid (HY.out.keep hb)
          replace HL := Lib.hid (HL.out.keep hb)
          replace HK := Lib.hid (HK.out.keep hb)
          replace HB := bel_tr HB hb
          clear hb
          clear k0 k1
          have k0 := HK.out.1
          have k1 := HK.out.2
          go_wp2_with fail
          refine (HD.out _ HL.out).mono ?_
          rintro e w3 ⟨rfl, hb⟩
          replace HX := Lib.hid (HX.out.keep hb)
          replace HY := Lib.hid (HY.out.keep hb)
          replace HL := Lib.hid (HL.out.keep hb)
          replace HK := Lib.hid (HK.out.keep hb)
          replace HB := bel_tr HB hb
          clear hb
          clear k0 k1
          have k0 := HK.out.1
          have k1 := HK.out.2
          go_wp2_with fail
          refine (HR0.out _ HL.out).mono ?_
          rintro e w4 ⟨x0, y0, rfl, hs1, hs2, hb⟩
          have HS1 := Lib.hid hs1
          have HS2 := Lib.hid hs2
          clear hs1 hs2
          replace HX := Lib.hid (HX.out.keep hb)
          replace HY := Lib.hid (HY.out.keep hb)
          replace HL := Lib.hid (HL.out.keep hb)
          replace HK := Lib.hid (HK.out.keep hb)
          replace HB := bel_tr HB hb
          clear hb
          clear k0 k1
          have k0 := HK.out.1
          have k1 := HK.out.2
          obtain ⟨a0, n0, rfl, -⟩ := SV.sh HS1.out
          obtain ⟨b0, m0, rfl, -⟩ := SV.sh HS2.out
          go_wp2_with fail
          refine (HMt.out p j _ _ C0 0 _ HL.out HS1.out HS2.out HL0.out HM.out).mono ?_
          rintro e w5 ⟨rfl, hb⟩
          replace HX := Lib.hid (HX.out.keep hb)
          replace HY := Lib.hid (HY.out.keep hb)
          replace HL := Lib.hid (HL.out.keep hb)
          replace HK := Lib.hid (HK.out.keep hb)
          replace HS1 := Lib.hid (HS1.out.keep hb)
          replace HS2 := Lib.hid (HS2.out.keep hb)
          replace HB := bel_tr HB hb
          clear hb
          clear k0 k1 HS1 HS2
          have k0 := HK.out.1
          have k1 := HK.out.2
          go_wp2_with fail
          refine (HV.out _ HX.out HY.out).mono ?_
          rintro e w6 ⟨rfl, hb⟩
          replace HX := Lib.hid (HX.out.keep hb)
          replace HY := Lib.hid (HY.out.keep hb)
          replace HL := Lib.hid (HL.out.keep hb)
          replace HK := Lib.hid (HK.out.keep hb)
          replace HB := bel_tr HB hb
          clear hb
          clear k0 k1
          have k0 := HK.out.1
          have k1 := HK.out.2
          go_wp2_with fail
          refine (HAt.out a b p n m j (.slice none 0 0) (.slice none 0 0) ([], []) 2 _ HX.out HY.out HL.out HN1.out HN2.out (SV.nil _) (SV.nil _) (by decide) HA.out).mono ?_
          rintro e w7 ⟨rfl, hb⟩
          replace HX := Lib.hid (HX.out.keep hb)
          replace HY := Lib.hid (HY.out.keep hb)
          replace HL := Lib.hid (HL.out.keep hb)
          replace HK := Lib.hid (HK.out.keep hb)
          replace HB := bel_tr HB hb
          clear hb
          clear k0 k1
          have k0 := HK.out.1
          have k1 := HK.out.2
          go_wp2_with fail
          refine (HKn.out _).mono ?_
          rintro e w8 ⟨rfl, hb⟩
          replace HX := Lib.hid (HX.out.keep hb)
          replace HY := Lib.hid (HY.out.keep hb)
          replace HL := Lib.hid (HL.out.keep hb)
          replace HK := Lib.hid (HK.out.keep hb)
          replace HB := bel_tr HB hb
          clear hb
          go_wp2_with fail
          go_ret
          exact ⟨rfl, HB.out⟩
        · rw [hv] at HV
          have hvv := (valid_vc _).1 hv
          have HA := Lib.hid (add_eq hvv hdv)
          have HO := Lib.hid (fun w h1 h2 => own_any xs ys a b n m w h1 h2 HN1.out HN2.out (by omega) (by omega))
          have HR1 := Lib.hid (fun w h1 h2 h3 => add_ref xs ys l a b p n m j w hvv hdv h1 h2 h3 HN1.out HA1.out (by omega) (by omega) (by omega))
          have hl1 := add_len hvv hdv
          have HL1 : Hid ((addC (xs, ys) l).1.length ≤ 1000000 ∧ (addC (xs, ys) l).2.length ≤ 1000000) := ⟨Nat.le_trans hl1.1 (by omega), Nat.le_trans hl1.2 (by simp only; omega)⟩
          have HE := Lib.hid (fun a b p q n m j k w h1 h2 h3 h4 => equal_ref xs ys xs ys a b p q n m j k w h1 h2 h3 h4 (by omega) (by omega) (by omega) (by omega))
          rw [show decide ((xs, ys) = (xs, ys)) = true by simp] at HE
          have HSm := Lib.hid (fun a b c d w hx hy => same_true l a b c d w hx hy (by omega))
          have HLl : Hid (l.length ≤ 40) := by show _ ≤ _; omega
          clear hd hdv hv h1 h2 hlx hly hll hvn hl0 hl1 hvv
          generalize addC (xs, ys) l = C at *
          go_enter Try.func5, Try.ntmps5
          go_wp2_with fail
          generalize w.alloc (cbox (.slice a xs.length n) (.slice b ys.length m)) = w1 at *
          refine (HLi.out _).mono ?_
          rintro e w2 ⟨rfl, hb⟩
          replace HX := Lib.hid (HX.out.keep hb)
          replace HY := Lib.hid (HY.out.keep hb)
          replace HL := Lib.hid (HL.out.keep hb)
          replace HK := Lib.hid (HK.out.keep hb)
          replace HB := bel_tr HB hb
          clear hb
          clear k0 k1
          have k0 := HK.out.1
          have k1 := HK.out.2
          go_wp2_with fail
          refine (HD.out _ HL.out).mono ?_
          rintro e w3 ⟨rfl, hb⟩
          replace HX := Lib.hid (HX.out.keep hb)
          replace HY := Lib.hid (HY.out.keep hb)
          replace HL := Lib.hid (HL.out.keep hb)
          replace HK := Lib.hid (HK.out.keep hb)
          replace HB := bel_tr HB hb
          clear hb
          clear k0 k1
          have k0 := HK.out.1
          have k1 := HK.out.2
          go_wp2_with fail
          refine (HR0.out _ HL.out).mono ?_
          rintro e w4 ⟨x0, y0, rfl, hs1, hs2, hb⟩
          have HS1 := Lib.hid hs1
          have HS2 := Lib.hid hs2
          clear hs1 hs2
          replace HX := Lib.hid (HX.out.keep hb)
          replace HY := Lib.hid (HY.out.keep hb)
          replace HL := Lib.hid (HL.out.keep hb)
          replace HK := Lib.hid (HK.out.keep hb)
          replace HB := bel_tr HB hb
          clear hb
          clear k0 k1
          have k0 := HK.out.1
          have k1 := HK.out.2
          obtain ⟨a0, n0, rfl, -⟩ := SV.sh HS1.out
          obtain ⟨b0, m0, rfl, -⟩ := SV.sh HS2.out
          go_wp2_with fail
          refine (HMt.out p j _ _ C0 0 _ HL.out HS1.out HS2.out HL0.out HM.out).mono ?_
          rintro e w5 ⟨rfl, hb⟩
          replace HX := Lib.hid (HX.out.keep hb)
          replace HY := Lib.hid (HY.out.keep hb)
          replace HL := Lib.hid (HL.out.keep hb)
          replace HK := Lib.hid (HK.out.keep hb)
          replace HS1 := Lib.hid (HS1.out.keep hb)
          replace HS2 := Lib.hid (HS2.out.keep hb)
          replace HB := bel_tr HB hb
          clear hb
          clear k0 k1 HS1 HS2
          have k0 := HK.out.1
          have k1 := HK.out.2
          go_wp2_with fail
          refine (HV.out _ HX.out HY.out).mono ?_
          rintro e w6 ⟨rfl, hb⟩
          replace HX := Lib.hid (HX.out.keep hb)
          replace HY := Lib.hid (HY.out.keep hb)
          replace HL := Lib.hid (HL.out.keep hb)
          replace HK := Lib.hid (HK.out.keep hb)
          replace HB := bel_tr HB hb
          clear hb
          clear k0 k1
          have k0 := HK.out.1
          have k1 := HK.out.2
          go_wp2_with fail
          refine (HO.out _ HX.out HY.out).mono ?_
          rintro e w7 ⟨x1, y1, rfl, ho, hb⟩
          obtain ⟨a1, n1, b1, m1, rfl, rfl⟩ := ho.shape
          have HS3 := Lib.hid (SV.of_od ho.1)
          have HS4 := Lib.hid (SV.of_od ho.2)
          clear ho
          replace HX := Lib.hid (HX.out.keep hb)
          replace HY := Lib.hid (HY.out.keep hb)
          replace HL := Lib.hid (HL.out.keep hb)
          replace HK := Lib.hid (HK.out.keep hb)
          replace HB := bel_tr HB hb
          clear hb
          clear k0 k1
          simp only at HS3 HS4
          go_wp2_with (at_builtin; refine wpList_appD rfl _ _ _ rfl Try.underlying22 infoD _ _ rfl (OD.nil w7 w7.heap.size E) p l j rfl HL.out HN3.out (by have := HLl.out; simp; omega) (Nat.le_refl _) ?_)
          intro v2 w8 ho hg3 _
          have hs : SV w8 v2 l := SV.of_od (show OD w8 w7.heap.size E v2 l from ho)
          have HS5 := Lib.hid hs
          have hb : Below w7.heap.size w7 w8 := (Below.refl _ _).grown hg3 (Nat.le_refl _) (fun k hk => by cases hk)
          clear ho hg3 hs
          replace HX := Lib.hid (HX.out.keep hb)
          replace HY := Lib.hid (HY.out.keep hb)
          replace HL := Lib.hid (HL.out.keep hb)
          replace HK := Lib.hid (HK.out.keep hb)
          replace HS3 := Lib.hid (HS3.out.keep hb)
          replace HS4 := Lib.hid (HS4.out.keep hb)
          replace HB := bel_tr HB hb
          clear hb
          obtain ⟨a5, n5, rfl, -⟩ := SV.sh HS5.out
          have HZ := Lib.hid (two_new w8 (.slice a1 xs.length n1) (.slice b1 ys.length m1))
          have hb := bel_box w8 (cbox (.slice a1 xs.length n1) (.slice b1 ys.length m1))
          replace HX := Lib.hid (HX.out.keep hb)
          replace HY := Lib.hid (HY.out.keep hb)
          replace HL := Lib.hid (HL.out.keep hb)
          replace HK := Lib.hid (HK.out.keep hb)
          replace HS3 := Lib.hid (HS3.out.keep hb)
          replace HS4 := Lib.hid (HS4.out.keep hb)
          replace HS5 := Lib.hid (HS5.out.keep hb)
          replace HB := bel_tr HB hb
          clear hb
          go_wp2_with fail
          generalize w8.alloc (cbox (.slice a1 xs.length n1) (.slice b1 ys.length m1)) = w9 at *
          have HK2 : Hid (Sb2 w.heap.size w8.heap.size (.slice a xs.length n) (.slice b ys.length m) (.slice a1 xs.length n1) (.slice b1 ys.length m1) w9) := ⟨HK.out, HZ.out⟩
          clear HK HZ
          have HK := HK2
          clear HK2
          refine Sch.wp_region_tree (Sb2 w.heap.size w8.heap.size (.slice a xs.length n) (.slice b ys.length m) (.slice a1 xs.length n1) (.slice b1 ys.length m1)) (.take 0 (.take 1 (.take 2 (.take 3 (.one 4 (.one 5 (.take 6 (.take 7 (.take 8 (.one 9 (.take 10 (.take 11 (.take 12 (.take 13 (.one 14 (.take 15 (.take 16 (.one 17 (.take 18 (.take 19 .done)))))))))))))))))))) (by kernel_rfl) (by kernel_rfl) (HK.out.keep ((Below.refl _ _).drew)) ?_
          have hb : Below w9.heap.size w9 w9.drew := (Below.refl _ _).drew
          replace HX := Lib.hid (HX.out.keep hb)
          replace HY := Lib.hid (HY.out.keep hb)
          replace HL := Lib.hid (HL.out.keep hb)
          replace HK := Lib.hid (HK.out.keep hb)
          replace HS3 := Lib.hid (HS3.out.keep hb)
          replace HS4 := Lib.hid (HS4.out.keep hb)
          replace HS5 := Lib.hid (HS5.out.keep hb)
          replace HB := bel_tr HB hb
          clear hb
          generalize w9.drew = w10 at *
          refine tree_load _ _ _ _ _ rfl rfl rfl rfl (by first | exact Sb2.la | exact Sb2.l) rfl ?_
          simp only [Act.put, List.setIfInBounds_toArray, List.set_cons_zero, List.set_cons_succ]
          refine Sch.tree_q rfl rfl (fun K hK => ?_)
          go_big_quiet_op
          first | refine hK _ ?_ | refine ⟨_, fun _ _ => rfl, hK _ ?_⟩
          clear hK K
          refine tree_load _ _ _ _ _ rfl rfl rfl rfl (by first | exact Sb2.la | exact Sb2.l) rfl ?_
          simp only [Act.put, List.setIfInBounds_toArray, List.set_cons_zero, List.set_cons_succ]
          refine Sch.tree_q rfl rfl (fun K hK => ?_)
          go_big_quiet_op
          first | refine hK _ ?_ | refine ⟨_, fun _ _ => rfl, hK _ ?_⟩
          clear hK K
          refine Sch.tree_e rfl rfl (fun K hK => ?_)
          go_wp2_with fail
          refine (HR1.out _ HX.out HY.out HL.out).mono ?_
          rintro e w11 ⟨x6, y6, rfl, hs1, hs2, hb⟩
          have HS6 := Lib.hid hs1
          have HS7 := Lib.hid hs2
          clear hs1 hs2
          replace HX := Lib.hid (HX.out.keep hb)
          replace HY := Lib.hid (HY.out.keep hb)
          replace HL := Lib.hid (HL.out.keep hb)
          replace HK := Lib.hid (HK.out.keep hb)
          replace HS3 := Lib.hid (HS3.out.keep hb)
          replace HS4 := Lib.hid (HS4.out.keep hb)
          replace HS5 := Lib.hid (HS5.out.keep hb)
          replace HB := bel_tr HB hb
          clear hb
          refine hK _ _ HK.out ?_
          clear hK K
          refine Sch.tree_e rfl rfl (fun K hK => ?_)
          go_wp2_with fail
          refine (HAt.out a1 b1 a5 n1 m1 n5 _ _ C 0 _ (SV.r HS3.out).1 (SV.r HS4.out).1 (SV.r HS5.out).1 (SV.r HS3.out).2.1 (SV.r HS4.out).2.1 HS6.out HS7.out HL1.out HA.out).mono ?_
          rintro e w12 ⟨rfl, hb⟩
          replace HX := Lib.hid (HX.out.keep hb)
          replace HY := Lib.hid (HY.out.keep hb)
          replace HL := Lib.hid (HL.out.keep hb)
          replace HK := Lib.hid (HK.out.keep hb)
          replace HS3 := Lib.hid (HS3.out.keep hb)
          replace HS4 := Lib.hid (HS4.out.keep hb)
          replace HS5 := Lib.hid (HS5.out.keep hb)
          replace HS6 := Lib.hid (HS6.out.keep hb)
          replace HS7 := Lib.hid (HS7.out.keep hb)
          replace HB := bel_tr HB hb
          clear hb
          refine hK _ _ HK.out ?_
          clear hK K
          refine Sch.tree_q rfl rfl (fun K hK => ?_)
          go_big_quiet_op
          first | refine hK _ ?_ | refine ⟨_, fun _ _ => rfl, hK _ ?_⟩
          clear hK K
          refine tree_load _ _ _ _ _ rfl rfl rfl rfl (by first | exact Sb2.la | exact Sb2.l) rfl ?_
          simp only [Act.put, List.setIfInBounds_toArray, List.set_cons_zero, List.set_cons_succ]
          refine tree_load _ _ _ _ _ rfl rfl rfl rfl (by first | exact Sb2.la | exact Sb2.l) rfl ?_
          simp only [Act.put, List.setIfInBounds_toArray, List.set_cons_zero, List.set_cons_succ]
          refine Sch.tree_e rfl rfl (fun K hK => ?_)
          go_wp2_with fail
          refine (HE.out a1 b1 a b n1 m1 n m _ (SV.r HS3.out).1 (SV.r HS4.out).1 HX.out HY.out).mono ?_
          rintro e w13 ⟨rfl, hb⟩
          replace HX := Lib.hid (HX.out.keep hb)
          replace HY := Lib.hid (HY.out.keep hb)
          replace HL := Lib.hid (HL.out.keep hb)
          replace HK := Lib.hid (HK.out.keep hb)
          replace HS3 := Lib.hid (HS3.out.keep hb)
          replace HS4 := Lib.hid (HS4.out.keep hb)
          replace HS5 := Lib.hid (HS5.out.keep hb)
          replace HS6 := Lib.hid (HS6.out.keep hb)
          replace HS7 := Lib.hid (HS7.out.keep hb)
          replace HB := bel_tr HB hb
          clear hb
          refine hK _ _ HK.out ?_
          clear hK K
          refine Sch.tree_q rfl rfl (fun K hK => ?_)
          go_big_quiet_op
          first | refine hK _ ?_ | refine ⟨_, fun _ _ => rfl, hK _ ?_⟩
          clear hK K
          refine Sch.tree_q rfl rfl (fun K hK => ?_)
          go_big_quiet_op
          first | refine hK _ ?_ | refine ⟨_, fun _ _ => rfl, hK _ ?_⟩
          clear hK K
          refine Sch.tree_q rfl rfl (fun K hK => ?_)
          go_big_quiet_op
          first | refine hK _ ?_ | refine ⟨_, fun _ _ => rfl, hK _ ?_⟩
          clear hK K
          refine Sch.tree_q rfl rfl (fun K hK => ?_)
          go_big_quiet_op
          first | refine hK _ ?_ | refine ⟨_, fun _ _ => rfl, hK _ ?_⟩
          clear hK K
          refine Sch.tree_e rfl rfl (fun K hK => ?_)
          go_wp2_with fail
          refine (HSm.out a5 p n5 j _ (SV.r HS5.out).1 HL.out).mono ?_
          rintro e w14 ⟨rfl, hb⟩
          replace HX := Lib.hid (HX.out.keep hb)
          replace HY := Lib.hid (HY.out.keep hb)
          replace HL := Lib.hid (HL.out.keep hb)
          replace HK := Lib.hid (HK.out.keep hb)
          replace HS3 := Lib.hid (HS3.out.keep hb)
          replace HS4 := Lib.hid (HS4.out.keep hb)
          replace HS5 := Lib.hid (HS5.out.keep hb)
          replace HS6 := Lib.hid (HS6.out.keep hb)
          replace HS7 := Lib.hid (HS7.out.keep hb)
          replace HB := bel_tr HB hb
          clear hb
          refine hK _ _ HK.out ?_
          clear hK K
          refine Sch.tree_q rfl rfl (fun K hK => ?_)
          go_big_quiet_op
          first | refine hK _ ?_ | refine ⟨_, fun _ _ => rfl, hK _ ?_⟩
          clear hK K
          refine Sch.tree_q rfl rfl (fun K hK => ?_)
          go_big_quiet_op
          first | refine hK _ ?_ | refine ⟨_, fun _ _ => rfl, hK _ ?_⟩
          clear hK K
          refine Sch.tree_e rfl rfl (fun K hK => ?_)
          go_wp2_with fail
          refine (HKn.out _).mono ?_
          rintro e w15 ⟨rfl, hb⟩
          replace HX := Lib.hid (HX.out.keep hb)
          replace HY := Lib.hid (HY.out.keep hb)
          replace HL := Lib.hid (HL.out.keep hb)
          replace HK := Lib.hid (HK.out.keep hb)
          replace HS3 := Lib.hid (HS3.out.keep hb)
          replace HS4 := Lib.hid (HS4.out.keep hb)
          replace HS5 := Lib.hid (HS5.out.keep hb)
          replace HS6 := Lib.hid (HS6.out.keep hb)
          replace HS7 := Lib.hid (HS7.out.keep hb)
          replace HB := bel_tr HB hb
          clear hb
          refine hK _ _ HK.out ?_
          clear hK K
          refine Sch.tree_q rfl rfl (fun K hK => ?_)
          go_big_quiet_op
          first | refine hK _ ?_ | refine ⟨_, fun _ _ => rfl, hK _ ?_⟩
          clear hK K
          refine Sch.tree_q rfl rfl (fun K hK => ?_)
          go_big_quiet_op
          first | refine hK _ ?_ | refine ⟨_, fun _ _ => rfl, hK _ ?_⟩
          clear hK K
          refine Sch.tree_n ?_
          go_wp2_with fail
          go_ret
          exact ⟨rfl, HB.out⟩
  · rw [show decide (xs.length ≤ 40 ∧ ys.length ≤ 40) = false by simpa using h1] at HLi
    clear h1 hlx hly hll
    go_enter Try.func5, Try.ntmps5
    go_wp2_with fail
    generalize w.alloc (cbox (.slice a xs.length n) (.slice b ys.length m)) = w1 at *
    refine (HLi.out _).mono ?_
    rintro e w2 ⟨rfl, hb⟩
    replace HX := Lib.hid (HX.out.keep hb)
    replace HY := Lib.hid (HY.out.keep hb)
    replace HL := Lib.hid (HL.out.keep hb)
    replace HK := Lib.hid (HK.out.keep hb)
    replace HB := bel_tr HB hb
    clear hb
    clear k0 k1
    have k0 := HK.out.1
    have k1 := HK.out.2
    go_wp2_with fail
    refine (HKn.out _).mono ?_
    rintro e w3 ⟨rfl, hb⟩
    replace HX := Lib.hid (HX.out.keep hb)
    replace HY := Lib.hid (HY.out.keep hb)
    replace HL := Lib.hid (HL.out.keep hb)
    replace HK := Lib.hid (HK.out.keep hb)
    replace HB := bel_tr HB hb
    clear hb
    go_wp2_with fail
    go_ret
    exact ⟨rfl, HB.out⟩
end Go.Proofs.Ytefnoajkdhgonaa.F
