/-
  The second law: the vector of some dots, and one more dot.
-/
import Derived.Test.YtfemfmppjabdjaaDoorELLooks
namespace Go.Proofs.YtfemfmppjabdjaaDoor.E
set_option linter.unusedVariables false
open Go.RowKit V Go.Sort D

theorem ofB_len (l : List Dt) : (ofB l).1.length ≤ 64 := by
  unfold ofB
  split
  · rename_i h
    exact vd_len (of_vd fun x hx => List.all_eq_true.1 h x hx)
  · simp
theorem mergeB_len (a b : List Dt) : (mergeB a b).1.length ≤ 64 := by
  unfold mergeB
  split
  · rename_i h
    exact vd_len (merge_vd ((valid_vd a).1 h.1) ((valid_vd b).1 h.2))
  · simp
set_option maxRecDepth 100000 in
theorem same_true5 (l : List Dt) (a b : Option Addr) (c d : Nat) (w : World) (hx : RowD w a l) (hy : RowD w b l) (hl : l.length ≤ 1000000) :
    Calls Tryd.prog 17 #[.slice a l.length c, .slice b l.length d] w fun e w' => e = .returned (.bool true) ∧ Below w.heap.size w w' :=
  (same_ref l l a b c d w hx hy (by omega) (by omega)).mono fun e w' h => ⟨by rw [h.1]; simp, h.2⟩

set_option maxRecDepth 100000 in
set_option maxHeartbeats 8000000 in
theorem makes_law (l v : List Dt) (a b : Option Addr) (c e : Nat) (d : Dt) (w : World) (hL : Ld w) (hx : RowD w a l) (hy : RowD w b v) (hna : a = none → c = 0) (hnb : b = none → e = 0) (hlc : v.length ≤ e) (hlx : l.length ≤ 9223372036854775807) (hly : v.length ≤ 9223372036854775807) :
    Calls Tryd.prog 4 #[.slice a l.length c, .slice b v.length e, dv d] w fun e w' => e = .returned (.bool true) ∧ Below w.heap.size w w' := by
  have HLd := Lib.hid hL
  have HRa := Lib.hid hx
  have HRb := Lib.hid hy
  have HNa := Lib.hid hna
  have HNb := Lib.hid hnb
  have HLc := Lib.hid hlc
  have HKn := Lib.hid (fun w hL => known_any w hL)
  have hK0 : K1 w.heap.size d (w.alloc (Obj.cells #[.int .i64 d.1, .int .i64 d.2] 25)) := by refine ⟨?_, ?_⟩ <;> go_simp
  have HB := Lib.hid (bel_box w (Obj.cells #[.int .i64 d.1, .int .i64 d.2] 25))
  have HK := Lib.hid hK0
  replace HRa := Lib.hid (HRa.out.keep HB.out)
  replace HRb := Lib.hid (HRb.out.keep HB.out)
  clear hL hx hy hna hnb hlc hK0
  by_cases h1 : 40 < l.length
  · have hg : (40 : Int) < (l.length : Int) := by omega
    clear h1 hlx hly
    obtain ⟨d1, d2⟩ := d
    go_enter Tryd.func4, Tryd.ntmps4
    go_wp2_with fail
    refine (HKn.out _ (HLd.out.below HB.out)).mono ?_
    rintro e w2 ⟨rfl, hb⟩
    replace HB := bel_tr HB hb
    clear hb
    go_wp2_with fail
    go_ret
    exact ⟨rfl, HB.out⟩
  have hg : ¬ (40 : Int) < (l.length : Int) := by omega
  by_cases h2 : 40 < v.length
  · have hg2 : (40 : Int) < (v.length : Int) := by omega
    clear h1 hlx hly h2
    obtain ⟨d1, d2⟩ := d
    go_enter Tryd.func4, Tryd.ntmps4
    go_wp2_with fail
    refine (HKn.out _ (HLd.out.below HB.out)).mono ?_
    rintro e w2 ⟨rfl, hb⟩
    replace HB := bel_tr HB hb
    clear hb
    go_wp2_with fail
    go_ret
    exact ⟨rfl, HB.out⟩
  have hg2 : ¬ (40 : Int) < (v.length : Int) := by omega
  have H1 := Lib.hid (fun w hx => of_ref l a c w hx (by omega))
  have HMd := Lib.hid (fun a c u m q w hx hu hm h => made_true l a c u m q w hx (by omega) hu hm h)
  have HSl := Lib.hid (fun a b c d w hx hy => same_true5 l a b c d w hx hy (by omega))
  have HSv := Lib.hid (fun a b c d w hx hy => same_true5 v a b c d w hx hy (by omega))
  have HVv := Lib.hid (fun w hx => validV_ref v b e w hx (by omega))
  have HVd := Lib.hid (fun w => valid_lays_ref d w)
  have HRr := Lib.hid (fun w hx => raise_ref v d b e w hx HNb.out HLc.out (by omega))
  have HRd := Lib.hid (fun a c u m q w hx hna hu hm h => raised_true v d a c u m q w hx hna (by omega) hu hm h)
  have HOl := Lib.hid (ofB_len l)
  have HRl : Hid ((raiseR v d).length ≤ 41) := by show _ ≤ _; have := raiseR_len v d; omega
  have HLl : Hid (l.length ≤ 40) := by show _ ≤ _; omega
  have HLv : Hid (v.length ≤ 40) := by show _ ≤ _; omega
  have HBy : Hid (validV v = true → validR d = true → raiseB v d = (raiseR v d, 0)) := fun h1 h2 => by unfold raiseB; rw [if_pos ⟨h1, h2⟩]
  have HBn : Hid (¬ (validV v = true ∧ validR d = true) → raiseB v d = ([], 2)) := fun h => by unfold raiseB; rw [if_neg h]
  have HOe : Hid (ofB l = ofB l) := rfl
  clear h1 h2 hlx hly
  obtain ⟨⟨m, q⟩, hO⟩ : ∃ r, ofB l = r := ⟨_, rfl⟩
  have HO := Lib.hid hO
  rw [hO] at H1 HOl
  clear hO HOe
  obtain ⟨p1, hp1⟩ : ∃ p, validV v = p := ⟨_, rfl⟩
  obtain ⟨p2, hp2⟩ : ∃ p, validR d = p := ⟨_, rfl⟩
  rw [hp1] at HVv HBy HBn
  rw [hp2] at HVd HBy HBn
  clear hp1 hp2
  go_enter Tryd.func4, Tryd.ntmps4
  go_wp2_with fail
  generalize w.alloc (Obj.cells #[.int .i64 d.1, .int .i64 d.2] 25) = w1 at *
  go_wp2_with fail
  refine (H1.out _ HRa.out).mono ?_
  rintro e w2 ⟨vx, rfl, hsv, hb⟩
  have HSV := Lib.hid hsv
  clear hsv
  replace HRa := Lib.hid (HRa.out.keep hb)
  replace HRb := Lib.hid (HRb.out.keep hb)
  replace HK := Lib.hid (HK.out.keep hb)
  replace HB := bel_tr HB hb
  clear hb
  obtain ⟨ax, cx, rfl⟩ := HSV.out.len
  go_wp2_with (at_builtin; refine wpList_appD rfl _ _ _ rfl Tryd.underlying22 infoD _ _ rfl (OD.nil w2 w2.heap.size E) a l c rfl HRa.out HNa.out (by have := HLl.out; simp; omega) (Nat.le_refl _) ?_)
  intro v1 w3 ho hg3 _
  have HOx : Hid (OD w3 w2.heap.size E v1 l) := ho
  have hb : Below w2.heap.size w2 w3 := (Below.refl _ _).grown hg3 (Nat.le_refl _) (fun k hk => by cases hk)
  replace HRa := Lib.hid (HRa.out.keep hb)
  replace HRb := Lib.hid (HRb.out.keep hb)
  replace HK := Lib.hid (HK.out.keep hb)
  replace HSV := Lib.hid (HSV.out.keep hb)
  replace HB := bel_tr HB hb
  clear ho hg3 hb
  obtain ⟨a1, c1, rfl, hrx, -⟩ := HOx.out.row
  have HRx := Lib.hid hrx
  clear hrx HOx
  go_wp2_with fail
  refine (HMd.out a1 c1 _ m q _ HRx.out HSV.out (Nat.le_trans HOl.out (by omega)) HO.out).mono ?_
  rintro e w4 ⟨rfl, hb⟩
  replace HRa := Lib.hid (HRa.out.keep hb)
  replace HRb := Lib.hid (HRb.out.keep hb)
  replace HK := Lib.hid (HK.out.keep hb)
  replace HSV := Lib.hid (HSV.out.keep hb)
  replace HRx := Lib.hid (HRx.out.keep hb)
  replace HB := bel_tr HB hb
  clear hb
  go_wp2_with fail
  refine (HSl.out a1 a c1 c _ HRx.out HRa.out).mono ?_
  rintro e w5 ⟨rfl, hb⟩
  replace HRa := Lib.hid (HRa.out.keep hb)
  replace HRb := Lib.hid (HRb.out.keep hb)
  replace HK := Lib.hid (HK.out.keep hb)
  replace HSV := Lib.hid (HSV.out.keep hb)
  replace HRx := Lib.hid (HRx.out.keep hb)
  replace HB := bel_tr HB hb
  clear hb
  go_wp2_with fail
  refine (HVv.out _ HRb.out).mono ?_
  rintro e w6 ⟨rfl, hl⟩
  have hb := hl.bel
  clear hl
  replace HRa := Lib.hid (HRa.out.keep hb)
  replace HRb := Lib.hid (HRb.out.keep hb)
  replace HK := Lib.hid (HK.out.keep hb)
  replace HSV := Lib.hid (HSV.out.keep hb)
  replace HRx := Lib.hid (HRx.out.keep hb)
  replace HB := bel_tr HB hb
  clear hb
  rcases p1 with _ | _
  · have k0 := HK.out.1
    have k1 := HK.out.2
    go_wp2_with fail
    refine (HRd.out b e (.slice none 0 0) [] 2 _ HRb.out HNb.out (SV.nil _) (by simp) (HBn.out (by simp))).mono ?_
    rintro e w7 ⟨rfl, hb⟩
    clear k0 k1
    replace HRa := Lib.hid (HRa.out.keep hb)
    replace HRb := Lib.hid (HRb.out.keep hb)
    replace HK := Lib.hid (HK.out.keep hb)
    replace HSV := Lib.hid (HSV.out.keep hb)
    replace HRx := Lib.hid (HRx.out.keep hb)
    replace HB := bel_tr HB hb
    clear hb
    go_wp2_with fail
    refine (HKn.out _ (HLd.out.below HB.out)).mono ?_
    rintro e w8 ⟨rfl, hb⟩
    replace HRa := Lib.hid (HRa.out.keep hb)
    replace HRb := Lib.hid (HRb.out.keep hb)
    replace HK := Lib.hid (HK.out.keep hb)
    replace HSV := Lib.hid (HSV.out.keep hb)
    replace HRx := Lib.hid (HRx.out.keep hb)
    replace HB := bel_tr HB hb
    clear hb
    go_wp2_with fail
    go_ret
    exact ⟨rfl, HB.out⟩
  · have k0 := HK.out.1
    have k1 := HK.out.2
    go_wp2_with fail
    refine (HVd.out _).mono ?_
    rintro e w7 ⟨rfl, hl⟩
    have hb := hl.bel
    clear hl
    clear k0 k1
    replace HRa := Lib.hid (HRa.out.keep hb)
    replace HRb := Lib.hid (HRb.out.keep hb)
    replace HK := Lib.hid (HK.out.keep hb)
    replace HSV := Lib.hid (HSV.out.keep hb)
    replace HRx := Lib.hid (HRx.out.keep hb)
    replace HB := bel_tr HB hb
    clear hb
    rcases p2 with _ | _
    · have k0 := HK.out.1
      have k1 := HK.out.2
      go_wp2_with fail
      refine (HRd.out b e (.slice none 0 0) [] 2 _ HRb.out HNb.out (SV.nil _) (by simp) (HBn.out (by simp))).mono ?_
      rintro e w8 ⟨rfl, hb⟩
      clear k0 k1
      replace HRa := Lib.hid (HRa.out.keep hb)
      replace HRb := Lib.hid (HRb.out.keep hb)
      replace HK := Lib.hid (HK.out.keep hb)
      replace HSV := Lib.hid (HSV.out.keep hb)
      replace HRx := Lib.hid (HRx.out.keep hb)
      replace HB := bel_tr HB hb
      clear hb
      go_wp2_with fail
      refine (HKn.out _ (HLd.out.below HB.out)).mono ?_
      rintro e w9 ⟨rfl, hb⟩
      replace HRa := Lib.hid (HRa.out.keep hb)
      replace HRb := Lib.hid (HRb.out.keep hb)
      replace HK := Lib.hid (HK.out.keep hb)
      replace HSV := Lib.hid (HSV.out.keep hb)
      replace HRx := Lib.hid (HRx.out.keep hb)
      replace HB := bel_tr HB hb
      clear hb
      go_wp2_with fail
      go_ret
      exact ⟨rfl, HB.out⟩
    · have HE := Lib.hid (HBy.out (by first | trivial | rfl) (by first | trivial | rfl))
      clear HBy HBn
      go_wp2_with (at_builtin; refine wpList_appD rfl _ _ _ rfl Tryd.underlying23 infoD _ _ rfl (OD.nil w7 w7.heap.size E) b v e rfl HRb.out HNb.out (by have := HLv.out; simp; omega) (Nat.le_refl _) ?_)
      intro v2 w8 ho hg3 _
      have HOy : Hid (OD w8 w7.heap.size E v2 v) := ho
      have hb : Below w7.heap.size w7 w8 := (Below.refl _ _).grown hg3 (Nat.le_refl _) (fun k hk => by cases hk)
      replace HRa := Lib.hid (HRa.out.keep hb)
      replace HRb := Lib.hid (HRb.out.keep hb)
      replace HK := Lib.hid (HK.out.keep hb)
      replace HSV := Lib.hid (HSV.out.keep hb)
      replace HRx := Lib.hid (HRx.out.keep hb)
      replace HB := bel_tr HB hb
      clear ho hg3 hb
      obtain ⟨a2, c2, rfl, hry, hny, -⟩ := HOy.out.row
      have HRy := Lib.hid hry
      have HNy := Lib.hid (fun h => (hny h).1)
      clear hry hny HOy
      go_wp2_with fail
      refine Sch.wp_region_tree (K1 w.heap.size d) (.take 0 (.take 1 (.take 2 (.take 3 (.one 4 (.one 5 (.take 6 (.take 7 (.take 8 (.one 9 (.take 10 (.take 11 (.one 12 (.take 13 (.take 14 .done))))))))))))))) (by kernel_rfl) (by kernel_rfl) (HK.out.keep ((Below.refl _ _).drew)) ?_
      have hb : Below w8.heap.size w8 w8.drew := (Below.refl _ _).drew
      replace HRa := Lib.hid (HRa.out.keep hb)
      replace HRb := Lib.hid (HRb.out.keep hb)
      replace HK := Lib.hid (HK.out.keep hb)
      replace HSV := Lib.hid (HSV.out.keep hb)
      replace HRx := Lib.hid (HRx.out.keep hb)
      replace HRy := Lib.hid (HRy.out.keep hb)
      replace HB := bel_tr HB hb
      clear hb
      generalize w8.drew = w9 at *
      repeat (first
        | (refine tree_load _ _ _ _ _ rfl rfl rfl rfl K1.l rfl ?_; simp only [Act.put, List.setIfInBounds_toArray, List.set_cons_zero, List.set_cons_succ])
        | (refine Sch.tree_q rfl rfl (fun K hK => ?_); go_big_quiet_op; (first | refine hK _ ?_ | refine ⟨_, fun _ _ => rfl, hK _ ?_⟩); clear hK K))
      refine Sch.tree_e rfl rfl (fun K hK => ?_)
      go_wp2_with fail
      refine (HRr.out _ HRb.out).mono ?_
      rintro e w10 ⟨a3, c3, rfl, r1, r2, r3, hb⟩
      have HRR : Hid (SV w10 (.slice a3 (raiseR v d).length c3) (raiseR v d)) := ⟨a3, c3, rfl, r1, r2, r3⟩
      clear r1 r2 r3
      replace HRa := Lib.hid (HRa.out.keep hb)
      replace HRb := Lib.hid (HRb.out.keep hb)
      replace HK := Lib.hid (HK.out.keep hb)
      replace HSV := Lib.hid (HSV.out.keep hb)
      replace HRx := Lib.hid (HRx.out.keep hb)
      replace HRy := Lib.hid (HRy.out.keep hb)
      replace HB := bel_tr HB hb
      clear hb
      refine hK _ _ HK.out ?_
      clear hK K
      refine Sch.tree_e rfl rfl (fun K hK => ?_)
      go_wp2_with fail
      refine (HRd.out a2 c2 _ (raiseR v d) 0 _ HRy.out HNy.out HRR.out (by have := HRl.out; omega) HE.out).mono ?_
      rintro e w11 ⟨rfl, hb⟩
      replace HRa := Lib.hid (HRa.out.keep hb)
      replace HRb := Lib.hid (HRb.out.keep hb)
      replace HK := Lib.hid (HK.out.keep hb)
      replace HSV := Lib.hid (HSV.out.keep hb)
      replace HRx := Lib.hid (HRx.out.keep hb)
      replace HRy := Lib.hid (HRy.out.keep hb)
      replace HB := bel_tr HB hb
      clear hb
      refine hK _ _ HK.out ?_
      clear hK K
      repeat (first
        | (refine tree_load _ _ _ _ _ rfl rfl rfl rfl K1.l rfl ?_; simp only [Act.put, List.setIfInBounds_toArray, List.set_cons_zero, List.set_cons_succ])
        | (refine Sch.tree_q rfl rfl (fun K hK => ?_); go_big_quiet_op; (first | refine hK _ ?_ | refine ⟨_, fun _ _ => rfl, hK _ ?_⟩); clear hK K))
      refine Sch.tree_e rfl rfl (fun K hK => ?_)
      go_wp2_with fail
      refine (HSv.out a2 b c2 e _ HRy.out HRb.out).mono ?_
      rintro e w12 ⟨rfl, hb⟩
      replace HRa := Lib.hid (HRa.out.keep hb)
      replace HRb := Lib.hid (HRb.out.keep hb)
      replace HK := Lib.hid (HK.out.keep hb)
      replace HSV := Lib.hid (HSV.out.keep hb)
      replace HRx := Lib.hid (HRx.out.keep hb)
      replace HRy := Lib.hid (HRy.out.keep hb)
      replace HB := bel_tr HB hb
      clear hb
      refine hK _ _ HK.out ?_
      clear hK K
      repeat (first
        | (refine tree_load _ _ _ _ _ rfl rfl rfl rfl K1.l rfl ?_; simp only [Act.put, List.setIfInBounds_toArray, List.set_cons_zero, List.set_cons_succ])
        | (refine Sch.tree_q rfl rfl (fun K hK => ?_); go_big_quiet_op; (first | refine hK _ ?_ | refine ⟨_, fun _ _ => rfl, hK _ ?_⟩); clear hK K))
      refine Sch.tree_e rfl rfl (fun K hK => ?_)
      go_wp2_with fail
      refine (HKn.out _ (HLd.out.below HB.out)).mono ?_
      rintro e w13 ⟨rfl, hb⟩
      replace HRa := Lib.hid (HRa.out.keep hb)
      replace HRb := Lib.hid (HRb.out.keep hb)
      replace HK := Lib.hid (HK.out.keep hb)
      replace HSV := Lib.hid (HSV.out.keep hb)
      replace HRx := Lib.hid (HRx.out.keep hb)
      replace HRy := Lib.hid (HRy.out.keep hb)
      replace HB := bel_tr HB hb
      clear hb
      refine hK _ _ HK.out ?_
      clear hK K
      repeat (first
        | (refine tree_load _ _ _ _ _ rfl rfl rfl rfl K1.l rfl ?_; simp only [Act.put, List.setIfInBounds_toArray, List.set_cons_zero, List.set_cons_succ])
        | (refine Sch.tree_q rfl rfl (fun K hK => ?_); go_big_quiet_op; (first | refine hK _ ?_ | refine ⟨_, fun _ _ => rfl, hK _ ?_⟩); clear hK K))
      refine Sch.tree_n ?_
      go_wp2_with fail
      go_ret
      exact ⟨rfl, HB.out⟩
end Go.Proofs.YtfemfmppjabdjaaDoor.E
