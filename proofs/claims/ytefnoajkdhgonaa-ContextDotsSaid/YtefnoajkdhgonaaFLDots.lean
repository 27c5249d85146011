/-
  The second law: dots in a context, and missing ones.
-/
import Derived.Test.YtefnoajkdhgonaaFKnown
namespace Go.Proofs.Ytefnoajkdhgonaa.F
set_option linter.unusedVariables false
open Go.RowKit V Go.Sort D
open E (SV SV.nil SV.keep SV.of_od)

set_option maxRecDepth 100000 in
set_option maxHeartbeats 8000000 in
theorem dots_law (xs ys l : List Dt) (a b p : Option Addr) (n m j : Nat) (d : Dt) (w : World) (hx : RowD w a xs) (hy : RowD w b ys) (hl : RowD w p l) (hlx : xs.length ≤ 9223372036854775807) (hly : ys.length ≤ 9223372036854775807) (hll : l.length ≤ 9223372036854775807) :
    Calls Try.prog 4 #[cv (.slice a xs.length n) (.slice b ys.length m), dv d, .slice p l.length j] w fun e w' => e = .returned (.bool true) ∧ Below w.heap.size w w' := by
  have HKn := Lib.hid (fun w => known_any w)
  have hb := bel_box w (cbox (.slice a xs.length n) (.slice b ys.length m))
  have hsz : (w.alloc (cbox (.slice a xs.length n) (.slice b ys.length m))).heap.size = w.heap.size + 1 := by simp
  have HB := Lib.hid hb
  have hb2 := bel_box (w.alloc (cbox (.slice a xs.length n) (.slice b ys.length m))) (Obj.cells #[.int .i64 d.1, .int .i64 d.2] 38)
  have HK : Hid (Sd w.heap.size (.slice a xs.length n) (.slice b ys.length m) (w.heap.size + 1) 0 d ((w.alloc (cbox (.slice a xs.length n) (.slice b ys.length m))).alloc (Obj.cells #[.int .i64 d.1, .int .i64 d.2] 38))) := by
    refine ⟨(two_new w _ _).keep hb2, ?_, ?_⟩ <;> rw [← hsz] <;> go_simp
  replace HB := bel_tr HB hb2
  have HX := Lib.hid (hx.keep HB.out)
  have HY := Lib.hid (hy.keep HB.out)
  have HL := Lib.hid (hl.keep HB.out)
  have HLi := Lib.hid (fun w => light_any xs ys a b n m w)
  clear hx hy hl hb hb2 hsz
  have k0 := HK.out.1.1
  have k1 := HK.out.1.2
  obtain ⟨d1, d2⟩ := d
  by_cases h1 : xs.length ≤ 40 ∧ ys.length ≤ 40
  · rw [show decide (xs.length ≤ 40 ∧ ys.length ≤ 40) = true by simpa using h1] at HLi
    by_cases h2 : 40 < l.length
    · have hg : (40 : Int) < (l.length : Int) := by omega
      clear h1 h2 hlx hly hll
      go_enter Try.func4, Try.ntmps4
      go_wp2_with fail
      generalize (w.alloc (cbox (.slice a xs.length n) (.slice b ys.length m))).alloc (Obj.cells #[.int .i64 d1, .int .i64 d2] 38) = w1 at *
      refine (HLi.out _).mono ?_
      rintro e w2 ⟨rfl, hb⟩
      replace HX := Lib.hid (HX.out.keep hb)
      replace HY := Lib.hid (HY.out.keep hb)
      replace HL := Lib.hid (HL.out.keep hb)
      replace HK := Lib.hid (HK.out.keep hb)
      replace HB := bel_tr HB hb
      clear hb
      clear k0 k1
      go_wp2_with fail
      refine (HKn.out _).mono ?_
      rintro e w3 ⟨rfl, hb⟩
      replace HX := Lib.hid (HX.out.keep hb)
      replace HY := Lib.hid (HY.out.keep hb)
      replace HL := Lib.hid (HL.out.keep hb)
      replace HK := Lib.hid (HK.out.keep hb)
      replace HB := bel_tr HB hb
      clear hb
      go_wp2_with fail
      go_ret
      exact ⟨rfl, HB.out⟩
    · have hg : ¬ (40 : Int) < (l.length : Int) := by omega
      have H1 := Lib.hid (fun w hx hy => has_any xs ys (d1, d2) a b n m w hx hy (by omega) (by omega))
      have H2 := Lib.hid (fun w hx hy => has_ref xs ys (d1, d2) a b n m w hx hy (by omega) (by omega))
      have H3 := Lib.hid (fun w hx hy hl => missing_any xs ys l a b p n m j w hx hy hl (by omega) (by omega) (by omega))
      have H4 := Lib.hid (fun w hx hy hl => missing_ref xs ys l a b p n m j w hx hy hl (by omega) (by omega) (by omega))
      have hml := miss_len (xs, ys) l
      have H5 := Lib.hid (fun a b c d w hx hy => same_true (missR (xs, ys) l) a b c d w hx hy (by omega))
      clear h1 h2 hlx hly hll hml
      generalize missR (xs, ys) l = R at *
      generalize hasC (xs, ys) (d1, d2) = q at *
      have e1 : (q == q) = true := by simp
      go_enter Try.func4, Try.ntmps4
      go_wp2_with fail
      generalize (w.alloc (cbox (.slice a xs.length n) (.slice b ys.length m))).alloc (Obj.cells #[.int .i64 d1, .int .i64 d2] 38) = w1 at *
      refine (HLi.out _).mono ?_
      rintro e w2 ⟨rfl, hb⟩
      replace HX := Lib.hid (HX.out.keep hb)
      replace HY := Lib.hid (HY.out.keep hb)
      replace HL := Lib.hid (HL.out.keep hb)
      replace HK := Lib.hid (HK.out.keep hb)
      replace HB := bel_tr HB hb
      clear hb
      clear k0 k1
      go_wp2_with fail
      refine Sch.wp_region_tree (Sd w.heap.size (.slice a xs.length n) (.slice b ys.length m) (w.heap.size + 1) 0 (d1, d2)) (.take 0 (.take 1 (.take 3 (.take 4 (.one 2 (.one 5 (.take 6 (.take 7 (.take 8 (.take 9 (.take 11 (.take 12 (.one 10 (.one 13 (.one 14 (.take 15 (.take 16 (.one 17 (.take 18 (.take 19 .done)))))))))))))))))))) (by kernel_rfl) (by kernel_rfl) (HK.out.keep ((Below.refl _ _).drew)) ?_
      have hb : Below w2.heap.size w2 w2.drew := (Below.refl _ _).drew
      replace HX := Lib.hid (HX.out.keep hb)
      replace HY := Lib.hid (HY.out.keep hb)
      replace HL := Lib.hid (HL.out.keep hb)
      replace HK := Lib.hid (HK.out.keep hb)
      replace HB := bel_tr HB hb
      clear hb
      generalize w2.drew = w3 at *
      refine tree_load _ _ _ _ _ rfl rfl rfl rfl (by first | exact Sd.l | exact Sd.d) rfl ?_
      simp only [Act.put, List.setIfInBounds_toArray, List.set_cons_zero, List.set_cons_succ]
      refine tree_load _ _ _ _ _ rfl rfl rfl rfl (by first | exact Sd.l | exact Sd.d) rfl ?_
      simp only [Act.put, List.setIfInBounds_toArray, List.set_cons_zero, List.set_cons_succ]
      refine tree_load _ _ _ _ _ rfl rfl rfl rfl (by first | exact Sd.l | exact Sd.d) rfl ?_
      simp only [Act.put, List.setIfInBounds_toArray, List.set_cons_zero, List.set_cons_succ]
      refine tree_load _ _ _ _ _ rfl rfl rfl rfl (by first | exact Sd.l | exact Sd.d) rfl ?_
      simp only [Act.put, List.setIfInBounds_toArray, List.set_cons_zero, List.set_cons_succ]
      refine Sch.tree_e rfl rfl (fun K hK => ?_)
      go_wp2_with fail
      refine (H1.out _ HX.out HY.out).mono ?_
      rintro e w4 ⟨rfl, hb⟩
      replace HX := Lib.hid (HX.out.keep hb)
      replace HY := Lib.hid (HY.out.keep hb)
      replace HL := Lib.hid (HL.out.keep hb)
      replace HK := Lib.hid (HK.out.keep hb)
      replace HB := bel_tr HB hb
      clear hb
      refine hK _ _ HK.out ?_
      clear hK K
      refine Sch.tree_e rfl rfl (fun K hK => ?_)
      go_wp2_with fail
      refine (H2.out _ HX.out HY.out).mono ?_
      rintro e w5 ⟨rfl, hb⟩
      replace HX := Lib.hid (HX.out.keep hb)
      replace HY := Lib.hid (HY.out.keep hb)
      replace HL := Lib.hid (HL.out.keep hb)
      replace HK := Lib.hid (HK.out.keep hb)
      replace HB := bel_tr HB hb
      clear hb
      refine hK _ _ HK.out ?_
      clear hK K
      refine Sch.tree_q rfl rfl (fun K hK => ?_)
      go_big_quiet_op
      first | refine hK _ ?_ | refine ⟨_, fun _ _ => rfl, hK _ ?_⟩
      clear hK K
      refine Sch.tree_q rfl rfl (fun K hK => ?_)
      go_big_quiet_op
      first | refine hK _ ?_ | refine ⟨_, fun _ _ => rfl, hK _ ?_⟩
      clear hK K
      refine tree_load _ _ _ _ _ rfl rfl rfl rfl (by first | exact Sd.l | exact Sd.d) rfl ?_
      simp only [Act.put, List.setIfInBounds_toArray, List.set_cons_zero, List.set_cons_succ]
      refine Sch.tree_q rfl rfl (fun K hK => ?_)
      go_big_quiet_op
      first | refine hK _ ?_ | refine ⟨_, fun _ _ => rfl, hK _ ?_⟩
      clear hK K
      refine tree_load _ _ _ _ _ rfl rfl rfl rfl (by first | exact Sd.l | exact Sd.d) rfl ?_
      simp only [Act.put, List.setIfInBounds_toArray, List.set_cons_zero, List.set_cons_succ]
      refine Sch.tree_q rfl rfl (fun K hK => ?_)
      go_big_quiet_op
      first | refine hK _ ?_ | refine ⟨_, fun _ _ => rfl, hK _ ?_⟩
      clear hK K
      refine Sch.tree_e rfl rfl (fun K hK => ?_)
      go_wp2_with fail
      refine (H3.out _ HX.out HY.out HL.out).mono ?_
      rintro e w6 ⟨v1, rfl, ho, hb⟩
      have hs1 := SV.of_od ho
      have HS1 := Lib.hid hs1
      clear ho hs1
      replace HX := Lib.hid (HX.out.keep hb)
      replace HY := Lib.hid (HY.out.keep hb)
      replace HL := Lib.hid (HL.out.keep hb)
      replace HK := Lib.hid (HK.out.keep hb)
      replace HB := bel_tr HB hb
      clear hb
      refine hK _ _ HK.out ?_
      clear hK K
      obtain ⟨a1, n1, rfl, -⟩ := SV.sh HS1.out
      refine Sch.tree_e rfl rfl (fun K hK => ?_)
      go_wp2_with fail
      refine (H4.out _ HX.out HY.out HL.out).mono ?_
      rintro e w7 ⟨v2, rfl, ho, hb⟩
      have HS2 := Lib.hid (SV.of_od ho)
      clear ho
      replace HX := Lib.hid (HX.out.keep hb)
      replace HY := Lib.hid (HY.out.keep hb)
      replace HL := Lib.hid (HL.out.keep hb)
      replace HK := Lib.hid (HK.out.keep hb)
      replace HS1 := Lib.hid (HS1.out.keep hb)
      replace HB := bel_tr HB hb
      clear hb
      refine hK _ _ HK.out ?_
      clear hK K
      obtain ⟨a2, n2, rfl, -⟩ := SV.sh HS2.out
      refine Sch.tree_e rfl rfl (fun K hK => ?_)
      go_wp2_with fail
      refine (H5.out a1 a2 n1 n2 _ (SV.r HS1.out).1 (SV.r HS2.out).1).mono ?_
      rintro e w8 ⟨rfl, hb⟩
      replace HX := Lib.hid (HX.out.keep hb)
      replace HY := Lib.hid (HY.out.keep hb)
      replace HL := Lib.hid (HL.out.keep hb)
      replace HK := Lib.hid (HK.out.keep hb)
      replace HS1 := Lib.hid (HS1.out.keep hb)
      replace HS2 := Lib.hid (HS2.out.keep hb)
      replace HB := bel_tr HB hb
      clear hb
      refine hK _ _ HK.out ?_
      clear hK K
      refine Sch.tree_q rfl rfl (fun K hK => ?_)
      go_big_quiet_op
      first | refine hK _ ?_ | refine ⟨_, fun _ _ => rfl, hK _ ?_⟩
      clear hK K
      refine Sch.tree_q rfl rfl (fun K hK => ?_)
      go_big_quiet_op
      first | refine hK _ ?_ | refine ⟨_, fun _ _ => rfl, hK _ ?_⟩
      clear hK K
      refine Sch.tree_e rfl rfl (fun K hK => ?_)
      go_wp2_with fail
      refine (HKn.out _).mono ?_
      rintro e w9 ⟨rfl, hb⟩
      replace HX := Lib.hid (HX.out.keep hb)
      replace HY := Lib.hid (HY.out.keep hb)
      replace HL := Lib.hid (HL.out.keep hb)
      replace HK := Lib.hid (HK.out.keep hb)
      replace HS1 := Lib.hid (HS1.out.keep hb)
      replace HS2 := Lib.hid (HS2.out.keep hb)
      replace HB := bel_tr HB hb
      clear hb
      refine hK _ _ HK.out ?_
      clear hK K
      refine Sch.tree_q rfl rfl (fun K hK => ?_)
      go_big_quiet_op
      first | refine hK _ ?_ | refine ⟨_, fun _ _ => rfl, hK _ ?_⟩
      clear hK K
      refine Sch.tree_q rfl rfl (fun K hK => ?_)
      go_big_quiet_op
      first | refine hK _ ?_ | refine ⟨_, fun _ _ => rfl, hK _ ?_⟩
      clear hK K
      refine Sch.tree_n ?_
      go_wp2_with fail
      go_ret
      exact ⟨rfl, HB.out⟩
  · rw [show decide (xs.length ≤ 40 ∧ ys.length ≤ 40) = false by simpa using h1] at HLi
    clear h1 hlx hly hll
    go_enter Try.func4, Try.ntmps4
    go_wp2_with fail
    generalize (w.alloc (cbox (.slice a xs.length n) (.slice b ys.length m))).alloc (Obj.cells #[.int .i64 d1, .int .i64 d2] 38) = w1 at *
    refine (HLi.out _).mono ?_
    rintro e w2 ⟨rfl, hb⟩
    replace HX := Lib.hid (HX.out.keep hb)
    replace HY := Lib.hid (HY.out.keep hb)
    replace HL := Lib.hid (HL.out.keep hb)
    replace HK := Lib.hid (HK.out.keep hb)
    replace HB := bel_tr HB hb
    clear hb
    clear k0 k1
    go_wp2_with fail
    refine (HKn.out _).mono ?_
    rintro e w3 ⟨rfl, hb⟩
    replace HX := Lib.hid (HX.out.keep hb)
    replace HY := Lib.hid (HY.out.keep hb)
    replace HL := Lib.hid (HL.out.keep hb)
    replace HK := Lib.hid (HK.out.keep hb)
    replace HB := bel_tr HB hb
    clear hb
    go_wp2_with fail
    go_ret
    exact ⟨rfl, HB.out⟩
end Go.Proofs.Ytefnoajkdhgonaa.F
