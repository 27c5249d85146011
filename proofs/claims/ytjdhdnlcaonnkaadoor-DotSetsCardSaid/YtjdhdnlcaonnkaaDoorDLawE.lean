/-
  The theorem of the layer.
-/
import Derived.Test.YtjdhdnlcaonnkaaDoorDLawD
namespace Go.Proofs.YtjdhdnlcaonnkaaDoor.D
set_option linter.unusedVariables false
open Go.RowKit V Go.Sort

/-- Three boxes with dots. -/
def K3 (g : Nat) (x y z : Dt) (w : World) : Prop := Bx w g x ∧ Bx w (g + 1) y ∧ Bx w (g + 1 + 1) z
theorem K3.keep {g : Nat} {x y z : Dt} {w w' : World} (h : K3 g x y z w) (hb : Below w.heap.size w w') : K3 g x y z w' := ⟨h.1.keep hb, h.2.1.keep hb, h.2.2.keep hb⟩
theorem K3.a {g : Nat} {x y z : Dt} : ∀ w, K3 g x y z w → (Instr.loadAt 23 (.pointer (some ⟨g, 0, none⟩))).run Tryd.prog w = .ok (.agg #[.int .i64 x.1, .int .i64 x.2]) w := fun w h => h.1.load
theorem K3.b {g : Nat} {x y z : Dt} : ∀ w, K3 g x y z w → (Instr.loadAt 23 (.pointer (some ⟨g + 1, 0, none⟩))).run Tryd.prog w = .ok (.agg #[.int .i64 y.1, .int .i64 y.2]) w := fun w h => h.2.1.load
theorem K3.c {g : Nat} {x y z : Dt} : ∀ w, K3 g x y z w → (Instr.loadAt 23 (.pointer (some ⟨g + 1 + 1, 0, none⟩))).run Tryd.prog w = .ok (.agg #[.int .i64 z.1, .int .i64 z.2]) w := fun w h => h.2.2.load
theorem cmp_three (x y : Dt) : cmpR x y = -1 ∨ cmpR x y = 0 ∨ cmpR x y = 1 := by
  unfold cmpR
  split
  · exact .inl rfl
  · split
    · exact .inr (.inr rfl)
    · exact .inr (.inl rfl)
theorem cmp_lt {x y z : Dt} (h : cmpR x y = -1) (k : cmpR y z = -1) : cmpR x z = -1 := by
  have h1 := cmp_neg.1 (show cmpR x y < 0 by omega)
  have h2 := cmp_neg.1 (show cmpR y z < 0 by omega)
  have h3 := cmp_neg.2 (less_trans h1 h2)
  rcases cmp_three x z with e | e | e <;> omega
theorem cmp_gt {x y z : Dt} (h : cmpR x y = 1) (k : cmpR y z = 1) : cmpR x z = 1 := by
  have h1 := cmp_pos.1 (show 0 < cmpR x y by omega)
  have h2 := cmp_pos.1 (show 0 < cmpR y z by omega)
  have h3 := cmp_pos.2 (less_trans h2 h1)
  rcases cmp_three x z with e | e | e <;> omega
theorem set_sv (xs : List Dt) (a : Option Addr) (c : Nat) (w : World) (hx : RowD w a xs) (hlx : xs.length ≤ 1000) :
    Calls Tryd.prog 15 #[.slice a xs.length c] w fun e w' => ∃ v, e = .returned v ∧ Sv w' v (setR xs) ∧ Below w.heap.size w w' :=
  (set_any xs a c w hx (by omega)).mono fun _ _ ⟨v, h1, h2, h3⟩ => ⟨v, h1, h2.sv, h3⟩
theorem txt_len {x : Dt} (h : named x) : (txtD x).length ≤ 1000000 := by
  rcases named_cases h with rfl | ⟨a, b, rfl, ha, hb, -, -, ht⟩
  · rw [show txtD (0, 0) = rootT from rfl]; decide
  · rw [ht, List.length_append, List.length_append]
    have l1 := dig_len64 (n := a) (by omega)
    have l2 := dig_len64 (n := b) (by omega)
    simp
    omega
theorem prsR_txt {x : Dt} (h : named x) : prsR (txtD x) = (x, 0) := by unfold prsR; rw [prs_txt h]

set_option maxRecDepth 100000 in
set_option maxHeartbeats 8000000 in
theorem holds_law (xs ys : List Dt) (a b : Option Addr) (c d : Nat) (x y z : Dt) (w : World) (hL : Ld w) (hx : RowD w a xs) (hy : RowD w b ys) (hna : a = none → c = 0) (hnb : b = none → d = 0) (hlx : xs.length ≤ 9223372036854775807) (hly : ys.length ≤ 9223372036854775807) :
    Calls Tryd.prog 7 #[.slice a xs.length c, .slice b ys.length d, dv x, dv y, dv z] w fun e w' => e = .returned (.bool true) ∧ Below w.heap.size w w' := by
  have HLd := Lib.hid hL
  have HRa := Lib.hid hx
  have HRb := Lib.hid hy
  have HNa := Lib.hid hna
  have HNb := Lib.hid hnb
  have HKn := Lib.hid (fun w hL => known_any w hL)
  clear hL hx hy hna hnb
  have hB0 : Below w.heap.size w (((w.alloc (Obj.cells #[.int .i64 x.1, .int .i64 x.2] 23)).alloc (Obj.cells #[.int .i64 y.1, .int .i64 y.2] 23)).alloc (Obj.cells #[.int .i64 z.1, .int .i64 z.2] 23)) := by
    refine (((Below.refl _ _).alloc (Nat.le_refl _) _).alloc ?_ _).alloc ?_ _ <;> simp <;> omega
  by_cases h1 : 60 < xs.length
  · have hg : (60 : Int) < (xs.length : Int) := by omega
    clear h1 hlx hly
    go_enter Tryd.func7, Tryd.ntmps7
    go_wp2_with fail
    refine (HKn.out _ (HLd.out.below hB0)).mono ?_
    rintro e w2 ⟨rfl, hb⟩
    have HB := bel_tr (Lib.hid hB0) hb
    clear hb
    go_wp2_with fail
    go_ret
    exact ⟨rfl, HB.out⟩
  by_cases h2 : 60 < ys.length
  · have hg : (60 : Int) < (ys.length : Int) := by omega
    have hg2 : ¬ (60 : Int) < (xs.length : Int) := by omega
    clear h1 h2 hlx hly
    go_enter Tryd.func7, Tryd.ntmps7
    go_wp2_with fail
    refine (HKn.out _ (HLd.out.below hB0)).mono ?_
    rintro e w2 ⟨rfl, hb⟩
    have HB := bel_tr (Lib.hid hB0) hb
    clear hb
    go_wp2_with fail
    go_ret
    exact ⟨rfl, HB.out⟩
  have hg : ¬ (60 : Int) < (xs.length : Int) := by omega
  have hg2 : ¬ (60 : Int) < (ys.length : Int) := by omega
  have HLx : Hid (xs.length ≤ 60) := by show _ ≤ _; omega
  have HLy : Hid (ys.length ≤ 60) := by show _ ≤ _; omega
  have hlyi : (ys.length : Int) ≤ 60 := by omega
  have HLs : Hid ((setR xs).length ≤ 60) := by show _ ≤ _; have := set_len xs; omega
  have HLu : Hid ((unionR xs ys).length ≤ 1000) := by show _ ≤ _; have := union_len xs ys; omega
  have HLm : Hid ((minusR xs ys).length ≤ 60) := by show _ ≤ _; have := minus_len xs ys; omega
  have HSe := Lib.hid (fun a c w hx => set_sv xs a c w hx (by omega))
  have HSs := Lib.hid (fun a c w hx => set_sv (setR xs) a c w hx (by have := HLs.out; omega))
  rw [set_set] at HSs
  have HIs := Lib.hid (fun a c w hx => isSet_val (setR xs) a _ c true (isSet_of _ (srt_set xs)) w hx rfl (by have := HLs.out; omega))
  have HUn := Lib.hid (fun a b c d w hx hy hna hnb => union_sv xs ys a b c d w hx hy hna hnb (by omega) (by omega))
  have HUs := Lib.hid (fun a b c d w hx hy hna hnb => union_sv ys xs a b c d w hx hy hna hnb (by omega) (by omega))
  rw [union_comm ys xs] at HUs
  have HMi := Lib.hid (fun a b c d w hx hy => minus_sv xs ys a b c d w hx hy (by omega) (by omega))
  have HUm := Lib.hid (fun a b c d w hx hy hna hnb => union_sv (minusR xs ys) ys a b c d w hx hy hna hnb (by have := HLm.out; omega) (by omega))
  rw [minus_back] at HUm
  have HIm := Lib.hid (fun a c w hx => isSet_val (minusR xs ys) a _ c true (isSet_of _ (srt_minus xs ys)) w hx rfl (by have := HLm.out; omega))
  have HMs := Lib.hid (fun a b c d w hx hy => minus_sv (minusR xs ys) (setR xs) a b c d w hx hy (by have := HLm.out; omega) (by have := HLs.out; omega))
  rw [minus_none (fun e he => mem_set.2 (mem_minus.1 he).1)] at HMs
  have HHm := Lib.hid (fun (e : Dt) (he : e ∈ ys) a c w hx => has_val (minusR xs ys) e a _ c false (by rw [decide_eq_false_iff_not, mem_minus]; exact fun h => h.2 he) w hx rfl (by have := HLm.out; omega))
  have HSa := Lib.hid (fun l a b c d w hx hy hl => same_true l a b c d w hx hy hl)
  clear h1 h2 hlx hly
  generalize unionR xs ys = U at *
  generalize minusR xs ys = M at *
  generalize setR xs = Q at *
  have HC := Lib.hid (fun x y c (h : cmpR x y = c) w => cmp_val x y c h w)
  have HV := Lib.hid (fun w => valid_any x w)
  have HR := Lib.hid (fun w => root_any x w)
  have HT := Lib.hid (fun w hL => text_any x w hL)
  have HPa := Lib.hid (fun (h : named x) w hL => parses_any (txtD x) x 0 w hL (txt_len h) (prsR_txt h))
  go_enter Tryd.func7, Tryd.ntmps7
  go_wp2_with fail
  have hK0 : K3 w.heap.size x y z (((w.alloc (Obj.cells #[.int .i64 x.1, .int .i64 x.2] 23)).alloc (Obj.cells #[.int .i64 y.1, .int .i64 y.2] 23)).alloc (Obj.cells #[.int .i64 z.1, .int .i64 z.2] 23)) := by
    refine ⟨⟨?_, ?_⟩, ⟨?_, ?_⟩, ?_, ?_⟩ <;> go_simp
  generalize ((w.alloc (Obj.cells #[.int .i64 x.1, .int .i64 x.2] 23)).alloc (Obj.cells #[.int .i64 y.1, .int .i64 y.2] 23)).alloc (Obj.cells #[.int .i64 z.1, .int .i64 z.2] 23) = w1 at *
  have HK := Lib.hid hK0
  have HB := Lib.hid hB0
  replace HRa := Lib.hid (HRa.out.keep hB0)
  replace HRb := Lib.hid (HRb.out.keep hB0)
  clear hK0 hB0
  refine Sch.wp_region_tree (K3 w.heap.size x y z) (.take 0 (.take 1 (.take 3 (.take 4 (.take 6 (.take 7 (.one 2 (.one 5 (.one 8 (.take 9 (.take 10 (.take 11 .done)))))))))))) (by kernel_rfl) (by kernel_rfl) (HK.out.keep ((Below.refl _ _).drew)) ?_
  have hb : Below w1.heap.size w1 w1.drew := (Below.refl _ _).drew
  replace HRa := Lib.hid (HRa.out.keep hb)
  replace HRb := Lib.hid (HRb.out.keep hb)
  replace HK := Lib.hid (HK.out.keep hb)
  replace HB := bel_tr HB hb
  clear hb
  generalize w1.drew = w3 at *
  obtain ⟨p, hp⟩ : ∃ p, cmpR x y = p := ⟨_, rfl⟩
  obtain ⟨q, hq⟩ : ∃ q, cmpR y z = q := ⟨_, rfl⟩
  obtain ⟨r, hr⟩ : ∃ r, cmpR x z = r := ⟨_, rfl⟩
  have Hp := Lib.hid hp
  have Hq := Lib.hid hq
  have Hr := Lib.hid hr
  clear hp hq hr
  repeat (first
    | (refine Sch.tree_q rfl rfl (fun K hK => ?_); go_big_quiet_op; (first | refine hK _ ?_ | refine ⟨_, fun _ _ => rfl, hK _ ?_⟩); clear hK K)
    | (refine tree_load _ _ _ _ _ rfl rfl rfl rfl (by first | exact K3.a | exact K3.b | exact K3.c) rfl ?_; simp only [Act.put, List.setIfInBounds_toArray, List.set_cons_zero, List.set_cons_succ]))
  refine Sch.tree_e rfl rfl (fun K hK => ?_)
  go_wp2_with fail
  refine (HC.out x y p Hp.out _).mono ?_
  rintro e w4 ⟨rfl, hb⟩
  replace HRa := Lib.hid (HRa.out.keep hb)
  replace HRb := Lib.hid (HRb.out.keep hb)
  replace HK := Lib.hid (HK.out.keep hb)
  replace HB := bel_tr HB hb
  clear hb
  refine hK _ _ HK.out ?_
  clear hK K
  refine Sch.tree_e rfl rfl (fun K hK => ?_)
  go_wp2_with fail
  refine (HC.out y z q Hq.out _).mono ?_
  rintro e w5 ⟨rfl, hb⟩
  replace HRa := Lib.hid (HRa.out.keep hb)
  replace HRb := Lib.hid (HRb.out.keep hb)
  replace HK := Lib.hid (HK.out.keep hb)
  replace HB := bel_tr HB hb
  clear hb
  refine hK _ _ HK.out ?_
  clear hK K
  refine Sch.tree_e rfl rfl (fun K hK => ?_)
  go_wp2_with fail
  refine (HC.out x z r Hr.out _).mono ?_
  rintro e w6 ⟨rfl, hb⟩
  replace HRa := Lib.hid (HRa.out.keep hb)
  replace HRb := Lib.hid (HRb.out.keep hb)
  replace HK := Lib.hid (HK.out.keep hb)
  replace HB := bel_tr HB hb
  clear hb
  refine hK _ _ HK.out ?_
  clear hK K
  repeat (first
    | (refine Sch.tree_q rfl rfl (fun K hK => ?_); go_big_quiet_op; (first | refine hK _ ?_ | refine ⟨_, fun _ _ => rfl, hK _ ?_⟩); clear hK K)
    | (refine tree_load _ _ _ _ _ rfl rfl rfl rfl (by first | exact K3.a | exact K3.b | exact K3.c) rfl ?_; simp only [Act.put, List.setIfInBounds_toArray, List.set_cons_zero, List.set_cons_succ]))
  refine Sch.tree_n ?_
  go_upto_region 4 with fail
  go_cut [75] from 38 to 75 (fun c wx => c = .bool false ∧ Hid (RowD wx a xs) ∧ Hid (RowD wx b ys) ∧ Hid (K3 w.heap.size x y z wx) ∧ Hid (Below w.heap.size w wx))
  case first =>
    have kx0 := HK.out.1.1
    have kx1 := HK.out.1.2
    have ky0 := HK.out.2.1.1
    have ky1 := HK.out.2.1.2
    have hpc := cmp_three x y
    rw [Hp.out] at hpc
    have hqc := cmp_three y z
    rw [Hq.out] at hqc
    rcases hpc with hpv | hpv | hpv
    · rcases hqc with hqv | hqv | hqv
      · have hxy : cmpR y x = 1 := by rw [cmp_swap, Hp.out, hpv]; rfl
        have hex := eql_no (p := x) (q := y) (fun h => by have := cmp_zero.2 h; have := Hp.out; omega)
        have hrv : r = -1 := by rw [← Hr.out]; exact cmp_lt (by rw [Hp.out, hpv]) (by rw [Hq.out, hqv])
        subst hrv
        subst hpv
        subst hqv
        go_wp2_with fail
        refine (HC.out y x 1 hxy _).mono ?_
        rintro e wz ⟨rfl, hb⟩
        replace HRa := Lib.hid (HRa.out.keep hb)
        replace HRb := Lib.hid (HRb.out.keep hb)
        replace HK := Lib.hid (HK.out.keep hb)
        replace HB := bel_tr HB hb
        clear hb kx0 kx1 ky0 ky1
        go_wp2_with fail
        go_meet
        case rel => exact ⟨rfl, HRa, HRb, HK, HB⟩
      · have hxy : cmpR y x = 1 := by rw [cmp_swap, Hp.out, hpv]; rfl
        have hex := eql_no (p := x) (q := y) (fun h => by have := cmp_zero.2 h; have := Hp.out; omega)
        subst hpv
        subst hqv
        go_wp2_with fail
        refine (HC.out y x 1 hxy _).mono ?_
        rintro e wz ⟨rfl, hb⟩
        replace HRa := Lib.hid (HRa.out.keep hb)
        replace HRb := Lib.hid (HRb.out.keep hb)
        replace HK := Lib.hid (HK.out.keep hb)
        replace HB := bel_tr HB hb
        clear hb kx0 kx1 ky0 ky1
        go_wp2_with fail
        go_meet
        case rel => exact ⟨rfl, HRa, HRb, HK, HB⟩
      · have hxy : cmpR y x = 1 := by rw [cmp_swap, Hp.out, hpv]; rfl
        have hex := eql_no (p := x) (q := y) (fun h => by have := cmp_zero.2 h; have := Hp.out; omega)
        subst hpv
        subst hqv
        go_wp2_with fail
        refine (HC.out y x 1 hxy _).mono ?_
        rintro e wz ⟨rfl, hb⟩
        replace HRa := Lib.hid (HRa.out.keep hb)
        replace HRb := Lib.hid (HRb.out.keep hb)
        replace HK := Lib.hid (HK.out.keep hb)
        replace HB := bel_tr HB hb
        clear hb kx0 kx1 ky0 ky1
        go_wp2_with fail
        go_meet
        case rel => exact ⟨rfl, HRa, HRb, HK, HB⟩
    · rcases hqc with hqv | hqv | hqv
      · have hxy : cmpR y x = 0 := by rw [cmp_swap, Hp.out, hpv]; rfl
        have hex : x = y := cmp_zero.1 (by rw [Hp.out, hpv])
        subst hpv
        subst hqv
        subst hex
        go_wp2_with fail
        refine (HC.out x x 0 hxy _).mono ?_
        rintro e wz ⟨rfl, hb⟩
        replace HRa := Lib.hid (HRa.out.keep hb)
        replace HRb := Lib.hid (HRb.out.keep hb)
        replace HK := Lib.hid (HK.out.keep hb)
        replace HB := bel_tr HB hb
        clear hb kx0 kx1 ky0 ky1
        go_wp2_with fail
        go_meet
        case rel => exact ⟨rfl, HRa, HRb, HK, HB⟩
      · have hxy : cmpR y x = 0 := by rw [cmp_swap, Hp.out, hpv]; rfl
        have hex : x = y := cmp_zero.1 (by rw [Hp.out, hpv])
        subst hpv
        subst hqv
        subst hex
        go_wp2_with fail
        refine (HC.out x x 0 hxy _).mono ?_
        rintro e wz ⟨rfl, hb⟩
        replace HRa := Lib.hid (HRa.out.keep hb)
        replace HRb := Lib.hid (HRb.out.keep hb)
        replace HK := Lib.hid (HK.out.keep hb)
        replace HB := bel_tr HB hb
        clear hb kx0 kx1 ky0 ky1
        go_wp2_with fail
        go_meet
        case rel => exact ⟨rfl, HRa, HRb, HK, HB⟩
      · have hxy : cmpR y x = 0 := by rw [cmp_swap, Hp.out, hpv]; rfl
        have hex : x = y := cmp_zero.1 (by rw [Hp.out, hpv])
        subst hpv
        subst hqv
        subst hex
        go_wp2_with fail
        refine (HC.out x x 0 hxy _).mono ?_
        rintro e wz ⟨rfl, hb⟩
        replace HRa := Lib.hid (HRa.out.keep hb)
        replace HRb := Lib.hid (HRb.out.keep hb)
        replace HK := Lib.hid (HK.out.keep hb)
        replace HB := bel_tr HB hb
        clear hb kx0 kx1 ky0 ky1
        go_wp2_with fail
        go_meet
        case rel => exact ⟨rfl, HRa, HRb, HK, HB⟩
    · rcases hqc with hqv | hqv | hqv
      · have hxy : cmpR y x = (-1) := by rw [cmp_swap, Hp.out, hpv]
        have hex := eql_no (p := x) (q := y) (fun h => by have := cmp_zero.2 h; have := Hp.out; omega)
        subst hpv
        subst hqv
        go_wp2_with fail
        refine (HC.out y x (-1) hxy _).mono ?_
        rintro e wz ⟨rfl, hb⟩
        replace HRa := Lib.hid (HRa.out.keep hb)
        replace HRb := Lib.hid (HRb.out.keep hb)
        replace HK := Lib.hid (HK.out.keep hb)
        replace HB := bel_tr HB hb
        clear hb kx0 kx1 ky0 ky1
        go_wp2_with fail
        go_meet
        case rel => exact ⟨rfl, HRa, HRb, HK, HB⟩
      · have hxy : cmpR y x = (-1) := by rw [cmp_swap, Hp.out, hpv]
        have hex := eql_no (p := x) (q := y) (fun h => by have := cmp_zero.2 h; have := Hp.out; omega)
        subst hpv
        subst hqv
        go_wp2_with fail
        refine (HC.out y x (-1) hxy _).mono ?_
        rintro e wz ⟨rfl, hb⟩
        replace HRa := Lib.hid (HRa.out.keep hb)
        replace HRb := Lib.hid (HRb.out.keep hb)
        replace HK := Lib.hid (HK.out.keep hb)
        replace HB := bel_tr HB hb
        clear hb kx0 kx1 ky0 ky1
        go_wp2_with fail
        go_meet
        case rel => exact ⟨rfl, HRa, HRb, HK, HB⟩
      · have hxy : cmpR y x = (-1) := by rw [cmp_swap, Hp.out, hpv]
        have hex := eql_no (p := x) (q := y) (fun h => by have := cmp_zero.2 h; have := Hp.out; omega)
        have hrv : r = 1 := by rw [← Hr.out]; exact cmp_gt (by rw [Hp.out, hpv]) (by rw [Hq.out, hqv])
        subst hrv
        subst hpv
        subst hqv
        go_wp2_with fail
        refine (HC.out y x (-1) hxy _).mono ?_
        rintro e wz ⟨rfl, hb⟩
        replace HRa := Lib.hid (HRa.out.keep hb)
        replace HRb := Lib.hid (HRb.out.keep hb)
        replace HK := Lib.hid (HK.out.keep hb)
        replace HB := bel_tr HB hb
        clear hb kx0 kx1 ky0 ky1
        go_wp2_with fail
        go_meet
        case rel => exact ⟨rfl, HRa, HRb, HK, HB⟩
  case rest =>
    obtain ⟨rfl, HRa, HRb, HK, HB⟩ := hcut
    generalize wc = w7 at *
    go_wp2_with fail
    refine (HSe.out a c _ HRa.out).mono ?_
    rintro e w8 ⟨v, rfl, ⟨a1, c1, rfl, hn, hr⟩, hb⟩
    replace HRa := Lib.hid (HRa.out.keep hb)
    replace HRb := Lib.hid (HRb.out.keep hb)
    replace HK := Lib.hid (HK.out.keep hb)
    have HS := Lib.hid hr
    have HN1 := Lib.hid hn
    clear hr hn
    replace HB := bel_tr HB hb
    clear hb
    go_wp2_with fail
    refine (HIs.out a1 c1 _ HS.out).mono ?_
    rintro e w9 ⟨rfl, hb⟩
    replace HRa := Lib.hid (HRa.out.keep hb)
    replace HRb := Lib.hid (HRb.out.keep hb)
    replace HK := Lib.hid (HK.out.keep hb)
    replace HS := Lib.hid (HS.out.keep hb)
    replace HB := bel_tr HB hb
    clear hb
    go_wp2_with fail
    refine (HSs.out a1 c1 _ HS.out).mono ?_
    rintro e w10 ⟨v, rfl, ⟨a2, c2, rfl, hn, hr⟩, hb⟩
    replace HRa := Lib.hid (HRa.out.keep hb)
    replace HRb := Lib.hid (HRb.out.keep hb)
    replace HK := Lib.hid (HK.out.keep hb)
    replace HS := Lib.hid (HS.out.keep hb)
    have HQ := Lib.hid hr
    have HN2 := Lib.hid hn
    clear hr hn
    replace HB := bel_tr HB hb
    clear hb
    go_wp2_with fail
    refine (HSa.out Q a2 a1 c2 c1 _ HQ.out HS.out (by have := HLs.out; omega)).mono ?_
    rintro e w11 ⟨rfl, hb⟩
    replace HRa := Lib.hid (HRa.out.keep hb)
    replace HRb := Lib.hid (HRb.out.keep hb)
    replace HK := Lib.hid (HK.out.keep hb)
    replace HS := Lib.hid (HS.out.keep hb)
    replace HQ := Lib.hid (HQ.out.keep hb)
    replace HB := bel_tr HB hb
    clear hb
    clear HQ
    go_wp2_with fail
    refine (HUn.out a b c d _ HRa.out HRb.out HNa.out HNb.out).mono ?_
    rintro e w12 ⟨v, rfl, ⟨a3, c3, rfl, hn, hr⟩, hb⟩
    replace HRa := Lib.hid (HRa.out.keep hb)
    replace HRb := Lib.hid (HRb.out.keep hb)
    replace HK := Lib.hid (HK.out.keep hb)
    replace HS := Lib.hid (HS.out.keep hb)
    have HQ := Lib.hid hr
    have HN3 := Lib.hid hn
    clear hr hn
    replace HB := bel_tr HB hb
    clear hb
    go_wp2_with fail
    refine (HUs.out b a d c _ HRb.out HRa.out HNb.out HNa.out).mono ?_
    rintro e w13 ⟨v, rfl, ⟨a4, c4, rfl, hn, hr⟩, hb⟩
    replace HRa := Lib.hid (HRa.out.keep hb)
    replace HRb := Lib.hid (HRb.out.keep hb)
    replace HK := Lib.hid (HK.out.keep hb)
    replace HS := Lib.hid (HS.out.keep hb)
    replace HQ := Lib.hid (HQ.out.keep hb)
    have HP := Lib.hid hr
    have HN4 := Lib.hid hn
    clear hr hn
    replace HB := bel_tr HB hb
    clear hb
    go_wp2_with fail
    refine (HSa.out U a3 a4 c3 c4 _ HQ.out HP.out (by have := HLu.out; omega)).mono ?_
    rintro e w14 ⟨rfl, hb⟩
    replace HRa := Lib.hid (HRa.out.keep hb)
    replace HRb := Lib.hid (HRb.out.keep hb)
    replace HK := Lib.hid (HK.out.keep hb)
    replace HS := Lib.hid (HS.out.keep hb)
    replace HQ := Lib.hid (HQ.out.keep hb)
    replace HP := Lib.hid (HP.out.keep hb)
    replace HB := bel_tr HB hb
    clear hb
    clear HQ HP
    go_wp2_with fail
    refine (HMi.out a b c d _ HRa.out HRb.out).mono ?_
    rintro e w15 ⟨v, rfl, ⟨a5, c5, rfl, hn, hr⟩, hb⟩
    replace HRa := Lib.hid (HRa.out.keep hb)
    replace HRb := Lib.hid (HRb.out.keep hb)
    replace HK := Lib.hid (HK.out.keep hb)
    replace HS := Lib.hid (HS.out.keep hb)
    have HM := Lib.hid hr
    have HN5 := Lib.hid hn
    clear hr hn
    replace HB := bel_tr HB hb
    clear hb
    go_wp2_with fail
    refine (HUm.out a5 b c5 d _ HM.out HRb.out HN5.out HNb.out).mono ?_
    rintro e w16 ⟨v, rfl, ⟨a6, c6, rfl, hn, hr⟩, hb⟩
    replace HRa := Lib.hid (HRa.out.keep hb)
    replace HRb := Lib.hid (HRb.out.keep hb)
    replace HK := Lib.hid (HK.out.keep hb)
    replace HS := Lib.hid (HS.out.keep hb)
    replace HM := Lib.hid (HM.out.keep hb)
    have HQ := Lib.hid hr
    have HN6 := Lib.hid hn
    clear hr hn
    replace HB := bel_tr HB hb
    clear hb
    go_wp2_with fail
    refine (HUn.out a b c d _ HRa.out HRb.out HNa.out HNb.out).mono ?_
    rintro e w17 ⟨v, rfl, ⟨a7, c7, rfl, hn, hr⟩, hb⟩
    replace HRa := Lib.hid (HRa.out.keep hb)
    replace HRb := Lib.hid (HRb.out.keep hb)
    replace HK := Lib.hid (HK.out.keep hb)
    replace HS := Lib.hid (HS.out.keep hb)
    replace HM := Lib.hid (HM.out.keep hb)
    replace HQ := Lib.hid (HQ.out.keep hb)
    have HP := Lib.hid hr
    have HN7 := Lib.hid hn
    clear hr hn
    replace HB := bel_tr HB hb
    clear hb
    go_wp2_with fail
    refine (HSa.out U a6 a7 c6 c7 _ HQ.out HP.out (by have := HLu.out; omega)).mono ?_
    rintro e w18 ⟨rfl, hb⟩
    replace HRa := Lib.hid (HRa.out.keep hb)
    replace HRb := Lib.hid (HRb.out.keep hb)
    replace HK := Lib.hid (HK.out.keep hb)
    replace HS := Lib.hid (HS.out.keep hb)
    replace HM := Lib.hid (HM.out.keep hb)
    replace HQ := Lib.hid (HQ.out.keep hb)
    replace HP := Lib.hid (HP.out.keep hb)
    replace HB := bel_tr HB hb
    clear hb
    clear HQ HP
    go_wp2_with fail
    refine (HIm.out a5 c5 _ HM.out).mono ?_
    rintro e w19 ⟨rfl, hb⟩
    replace HRa := Lib.hid (HRa.out.keep hb)
    replace HRb := Lib.hid (HRb.out.keep hb)
    replace HK := Lib.hid (HK.out.keep hb)
    replace HS := Lib.hid (HS.out.keep hb)
    replace HM := Lib.hid (HM.out.keep hb)
    replace HB := bel_tr HB hb
    clear hb
    go_wp2_with fail
    refine (HMs.out a5 a1 c5 c1 _ HM.out HS.out).mono ?_
    rintro e w20 ⟨v, rfl, ⟨a8, c8, rfl, hn, hr⟩, hb⟩
    replace HRa := Lib.hid (HRa.out.keep hb)
    replace HRb := Lib.hid (HRb.out.keep hb)
    replace HK := Lib.hid (HK.out.keep hb)
    replace HS := Lib.hid (HS.out.keep hb)
    replace HM := Lib.hid (HM.out.keep hb)
    clear hr hn
    replace HB := bel_tr HB hb
    clear hb
    go_wp2_with fail
    go_loopw [123] (fun i wr => ∃ k : Nat, k ≤ ys.length ∧ i = .int .i64 (k : Int) ∧ Hid (RowD wr b ys) ∧ Hid (RowD wr a5 M) ∧ Hid (K3 w.heap.size x y z wr) ∧ Hid (Below w.heap.size w wr)) (fun i _ => ys.length - (intOf i).toNat)
    case atStart => exact ⟨0, Nat.zero_le _, rfl, HRb, HM, HK, HB⟩
    case round =>
      clear HRa HRb HM HK HB
      obtain ⟨k, hk, rfl, HRb, HM, HK, HB⟩ := hrel
      by_cases hlt : k < ys.length
      · have hi1 : (k : Int) < (ys.length : Int) := by omega
        obtain ⟨b1, o1, rfl, p0, p1⟩ := HRb.out.get (Below.refl _ _) k hlt
        obtain ⟨e, he⟩ : ∃ e, e = ys[k] := ⟨_, rfl⟩
        rw [← he] at p0 p1
        have HHe := Lib.hid (fun a c w hx => HHm.out e (by rw [he]; exact List.getElem_mem hlt) a c w hx)
        clear he
        go_wp2_with fail
        have hb := bel_box wr (Obj.cells #[.int .i64 e.1, .int .i64 e.2] 23)
        replace HRb := Lib.hid (HRb.out.keep hb)
        replace HM := Lib.hid (HM.out.keep hb)
        replace HK := Lib.hid (HK.out.keep hb)
        replace HB := bel_tr HB hb
        clear hb p0 p1
        refine (HHe.out a5 c5 _ HM.out).mono ?_
        rintro ee wy ⟨rfl, hb⟩
        replace HRb := Lib.hid (HRb.out.keep hb)
        replace HM := Lib.hid (HM.out.keep hb)
        replace HK := Lib.hid (HK.out.keep hb)
        replace HB := bel_tr HB hb
        clear hb
        go_wp2_with fail
        go_roundw
        case rel => exact ⟨k + 1, by omega, by go_num, HRb, HM, HK, HB⟩
        case measure => simp [intOf]; omega
      · have hi1 : ¬ (k : Int) < (ys.length : Int) := by omega
        clear HRb HM
        have kx0 := HK.out.1.1
        have kx1 := HK.out.1.2
        rcases hv : validR x with _ | _
        · rcases hro : rootR x with _ | _
          · rw [txtR_no hv hro] at HT
            rw [hv] at HV
            rw [hro] at HR
            clear HPa hv hro
            go_wp2_with fail
            refine (HT.out _ (HLd.out.below HB.out)).mono ?_
            rintro e w21 ⟨rfl, hb⟩
            replace HK := Lib.hid (HK.out.keep hb)
            replace HB := bel_tr HB hb
            clear hb
            clear kx0 kx1
            have kx0 := HK.out.1.1
            have kx1 := HK.out.1.2
            go_wp2_with fail
            refine (HV.out _).mono ?_
            rintro e w22 ⟨rfl, hb⟩
            replace HK := Lib.hid (HK.out.keep hb)
            replace HB := bel_tr HB hb
            clear hb
            clear kx0 kx1
            have kx0 := HK.out.1.1
            have kx1 := HK.out.1.2
            go_wp2_with fail
            refine (HR.out _).mono ?_
            rintro e w23 ⟨rfl, hb⟩
            replace HK := Lib.hid (HK.out.keep hb)
            replace HB := bel_tr HB hb
            clear hb
            clear kx0 kx1
            go_wp2_with fail
            refine (HKn.out _ (HLd.out.below HB.out)).mono ?_
            rintro e w24 ⟨rfl, hb⟩
            replace HK := Lib.hid (HK.out.keep hb)
            replace HB := bel_tr HB hb
            clear hb
            go_wp2_with fail
            go_ret
            exact ⟨rfl, HB.out⟩
          · rw [show txtR x = (txtD x, 0) by unfold txtR; rw [hro, Bool.true_or]; rfl] at HT
            rw [hv] at HV
            rw [hro] at HR
            have HPn := Lib.hid (HPa.out (.inr hro))
            clear HPa hv hro
            go_wp2_with fail
            refine (HT.out _ (HLd.out.below HB.out)).mono ?_
            rintro e w21 ⟨rfl, hb⟩
            replace HK := Lib.hid (HK.out.keep hb)
            replace HB := bel_tr HB hb
            clear hb
            clear kx0 kx1
            have kx0 := HK.out.1.1
            have kx1 := HK.out.1.2
            go_wp2_with fail
            refine (HV.out _).mono ?_
            rintro e w22 ⟨rfl, hb⟩
            replace HK := Lib.hid (HK.out.keep hb)
            replace HB := bel_tr HB hb
            clear hb
            clear kx0 kx1
            have kx0 := HK.out.1.1
            have kx1 := HK.out.1.2
            go_wp2_with fail
            refine (HR.out _).mono ?_
            rintro e w23 ⟨rfl, hb⟩
            replace HK := Lib.hid (HK.out.keep hb)
            replace HB := bel_tr HB hb
            clear hb
            clear kx0 kx1
            have kx0 := HK.out.1.1
            have kx1 := HK.out.1.2
            go_wp2_with fail
            refine (HPn.out _ (HLd.out.below HB.out)).mono ?_
            rintro e w24 ⟨rfl, hb⟩
            replace HK := Lib.hid (HK.out.keep hb)
            replace HB := bel_tr HB hb
            clear hb
            clear kx0 kx1
            go_wp2_with fail
            refine (HKn.out _ (HLd.out.below HB.out)).mono ?_
            rintro e w25 ⟨rfl, hb⟩
            replace HK := Lib.hid (HK.out.keep hb)
            replace HB := bel_tr HB hb
            clear hb
            go_wp2_with fail
            go_ret
            exact ⟨rfl, HB.out⟩
        · rw [txtR_valid hv] at HT
          rw [hv] at HV
          have HPn := Lib.hid (HPa.out (.inl hv))
          clear HPa hv
          go_wp2_with fail
          refine (HT.out _ (HLd.out.below HB.out)).mono ?_
          rintro e w21 ⟨rfl, hb⟩
          replace HK := Lib.hid (HK.out.keep hb)
          replace HB := bel_tr HB hb
          clear hb
          clear kx0 kx1
          have kx0 := HK.out.1.1
          have kx1 := HK.out.1.2
          go_wp2_with fail
          refine (HV.out _).mono ?_
          rintro e w22 ⟨rfl, hb⟩
          replace HK := Lib.hid (HK.out.keep hb)
          replace HB := bel_tr HB hb
          clear hb
          clear kx0 kx1
          have kx0 := HK.out.1.1
          have kx1 := HK.out.1.2
          go_wp2_with fail
          refine (HPn.out _ (HLd.out.below HB.out)).mono ?_
          rintro e w23 ⟨rfl, hb⟩
          replace HK := Lib.hid (HK.out.keep hb)
          replace HB := bel_tr HB hb
          clear hb
          clear kx0 kx1
          go_wp2_with fail
          refine (HKn.out _ (HLd.out.below HB.out)).mono ?_
          rintro e w24 ⟨rfl, hb⟩
          replace HK := Lib.hid (HK.out.keep hb)
          replace HB := bel_tr HB hb
          clear hb
          go_wp2_with fail
          go_ret
          exact ⟨rfl, HB.out⟩
end Go.Proofs.YtjdhdnlcaonnkaaDoor.D
