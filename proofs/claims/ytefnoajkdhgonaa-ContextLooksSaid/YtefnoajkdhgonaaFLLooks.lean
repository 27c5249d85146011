/-
  The first law: what is valid, compact, equal; what Compact returns.
-/
import Derived.Test.YtefnoajkdhgonaaFKnown
namespace Go.Proofs.Ytefnoajkdhgonaa.F
set_option linter.unusedVariables false
open Go.RowKit V Go.Sort D
open E (SV SV.nil SV.keep SV.of_od)

/-- A row of dots whose counters may be written. -/
def Wd (B G : Nat) (w : World) (a : Option Addr) (n : Nat) : Prop :=
  n = 0 ∨ ∃ g, a = some ⟨g, 0, none⟩ ∧ B ≤ g ∧ g < G ∧ ∀ i, i < n → (∃ z : Int, w.cell? ⟨g, i * 2 + 1, none⟩ = some (.int .i64 z)) ∧ w.frozen? ⟨g, i * 2 + 1, none⟩ = false
theorem Wd.of_od {w : World} {base : Nat} {a : Option Addr} {k c : Nat} {l : List Dt} (h : OD w base E (.slice a k c) l) : Wd base w.heap.size w a l.length := by
  obtain ⟨a', c', e, -, hn, -, hx⟩ := h.row
  simp only [Value.slice.injEq] at e
  obtain ⟨rfl, rfl, rfl⟩ := e
  by_cases hl : l = []
  · exact .inl (by rw [hl]; rfl)
  · rcases a with _ | x
    · exact absurd (hn rfl).2 hl
    · obtain ⟨e, -, hb, hg⟩ := hx x rfl
      rw [e] at h ⊢
      obtain ⟨-, -, -, -, hc⟩ := h.rw
      exact .inr ⟨x.block, rfl, hb, hg, fun i hi => ⟨⟨_, (hc i hi).2.1⟩, (hc i hi).2.2.2⟩⟩
theorem Wd.keep {B G n : Nat} {w w' : World} {a : Option Addr} (h : Wd B G w a n) (hb : Below w.heap.size w w') : Wd B G w' a n := by
  rcases h with h | ⟨g, e, h1, h2, h3⟩
  · exact .inl h
  · refine .inr ⟨g, e, h1, h2, fun i hi => ?_⟩
    obtain ⟨⟨z, hz⟩, hf⟩ := h3 i hi
    have hl := lt_of_cell hz
    exact ⟨⟨z, (hb.cell (p := ⟨_, _, none⟩) hl).trans hz⟩, (hb.frozen (p := ⟨_, _, none⟩) hl).trans hf⟩
theorem Wd.set {B G n : Nat} {w : World} {a : Option Addr} (h : Wd B G w a n) (g k : Nat) (z : Int) : Wd B G (w.setCell ⟨g, k, none⟩ (.int .i64 z)) a n := by
  rcases h with h | ⟨g', e, h1, h2, h3⟩
  · exact .inl h
  · refine .inr ⟨g', e, h1, h2, fun i hi => ?_⟩
    obtain ⟨⟨y, hy⟩, hf⟩ := h3 i hi
    refine ⟨?_, by rw [World.frozen?_setCell]; exact hf⟩
    by_cases hp : (⟨g, k, none⟩ : Addr) = ⟨g', i * 2 + 1, none⟩
    · rw [hp]
      exact ⟨z, World.cell?_setCell_same _ _ _ hy⟩
    · exact ⟨y, by rw [World.cell?_setCell_other _ _ _ _ hp]; exact hy⟩

set_option maxRecDepth 100000 in
set_option maxHeartbeats 8000000 in
theorem looks_law (xs ys us vs : List Dt) (a b p q : Option Addr) (n m j k : Nat) (w : World) (hx : RowD w a xs) (hy : RowD w b ys) (hp : RowD w p us) (hq : RowD w q vs) (hna : a = none → n = 0) (hnb : b = none → m = 0) (hla : xs.length ≤ n) (hlb : ys.length ≤ m) :
    Calls Try.prog 3 #[cv (.slice a xs.length n) (.slice b ys.length m), cv (.slice p us.length j) (.slice q vs.length k)] w fun e w' => e = .returned (.bool true) ∧ Below w.heap.size w w' := by
  have HKn := Lib.hid (fun w => known_any w)
  obtain ⟨t0, t1, hb⟩ := two_boxes w (.slice a xs.length n) (.slice b ys.length m) (.slice p us.length j) (.slice q vs.length k)
  have HK : Hid (Sb2 w.heap.size (w.heap.size + 1) (.slice a xs.length n) (.slice b ys.length m) (.slice p us.length j) (.slice q vs.length k) ((w.alloc (cbox (.slice a xs.length n) (.slice b ys.length m))).alloc (cbox (.slice p us.length j) (.slice q vs.length k)))) := ⟨t0, t1⟩
  have HB := Lib.hid hb
  have HX := Lib.hid (hx.keep hb)
  have HY := Lib.hid (hy.keep hb)
  have HP := Lib.hid (hp.keep hb)
  have HQ := Lib.hid (hq.keep hb)
  have HN1 := Lib.hid hna
  have HN2 := Lib.hid hnb
  have HA1 := Lib.hid hla
  have HA2 := Lib.hid hlb
  have HLi := Lib.hid (fun w => light_any xs ys a b n m w)
  have HLj := Lib.hid (fun w => light_any us vs p q j k w)
  clear hx hy hp hq hb t0 t1 hna hnb hla hlb
  have k0 := HK.out.1.1
  have k1 := HK.out.1.2
  by_cases h1 : xs.length ≤ 40 ∧ ys.length ≤ 40
  · rw [show decide (xs.length ≤ 40 ∧ ys.length ≤ 40) = true by simpa using h1] at HLi
    by_cases h2 : us.length ≤ 40 ∧ vs.length ≤ 40
    · rw [show decide (us.length ≤ 40 ∧ vs.length ≤ 40) = true by simpa using h2] at HLj
      have HV1 := Lib.hid (fun w h1 h2 => valid_any xs ys a b n m w h1 h2 (by omega) (by omega))
      have HV2 := Lib.hid (fun w h1 h2 => valid_ref xs ys a b n m w h1 h2 (by omega) (by omega))
      have HI1 := Lib.hid (fun w h1 h2 => isCompact_any xs ys a b n m w h1 h2 (by omega) (by omega))
      have HI2 := Lib.hid (fun w h1 h2 => isCompact_ref xs ys a b n m w h1 h2 (by omega) (by omega))
      have HE1 := Lib.hid (fun w h1 h2 h3 h4 => equal_any xs ys us vs a b p q n m j k w h1 h2 h3 h4 (by omega) (by omega) (by omega) (by omega))
      have HE2 := Lib.hid (fun w h1 h2 h3 h4 => equal_ref xs ys us vs a b p q n m j k w h1 h2 h3 h4 (by omega) (by omega) (by omega) (by omega))
      have HE3 := Lib.hid (fun w h1 h2 => equal_any xs ys xs ys a b a b n m n m w h1 h2 h1 h2 (by omega) (by omega) (by omega) (by omega))
      rw [show decide ((xs, ys) = (xs, ys)) = true by simp] at HE3
      have HSz := Lib.hid (fun w h1 h2 => size_any xs ys a b n m w h1 h2 (by omega) (by omega))
      rcases hv : validC (xs, ys) with _ | _
      · rw [hv] at HV1 HV2
        have hcb : compB (xs, ys) = (([], []), 2) := by unfold compB; rw [hv]; rfl
        have hsb : sizeB (xs, ys) = 0 := by unfold sizeB; rw [hv]; rfl
        rw [hsb] at HSz
        have HCt := Lib.hid (fun w h1 h2 => compacts_true xs ys a b n m (.slice none 0 0) (.slice none 0 0) ([], []) 2 w h1 h2 HN1.out (by omega) (by omega) (SV.nil _) (SV.nil _) (by decide) hcb)
        clear hv h1 h2 hcb hsb
        generalize isCompR (xs, ys) = ic at *
        generalize decide ((xs, ys) = (us, vs)) = eqv at *
        have e1 : (ic == ic) = true := by simp
        have e2 : (eqv == eqv) = true := by simp
        go_enter Try.func3, Try.ntmps3
        go_wp2_with fail
        generalize (w.alloc (cbox (.slice a xs.length n) (.slice b ys.length m))).alloc (cbox (.slice p us.length j) (.slice q vs.length k)) = w1 at *
        refine (HLi.out _).mono ?_
        rintro e w2 ⟨rfl, hb⟩
        replace HX := Lib.hid (HX.out.keep hb)
        replace HY := Lib.hid (HY.out.keep hb)
        replace HP := Lib.hid (HP.out.keep hb)
        replace HQ := Lib.hid (HQ.out.keep hb)
        replace HK := Lib.hid (HK.out.keep hb)
        replace HB := bel_tr HB hb
        clear hb
        clear k0 k1
        have k0 := HK.out.1.1
        have k1 := HK.out.1.2
        have k2 := HK.out.2.1
        have k3 := HK.out.2.2
        go_wp2_with fail
        refine (HLj.out _).mono ?_
        rintro e w3 ⟨rfl, hb⟩
        replace HX := Lib.hid (HX.out.keep hb)
        replace HY := Lib.hid (HY.out.keep hb)
        replace HP := Lib.hid (HP.out.keep hb)
        replace HQ := Lib.hid (HQ.out.keep hb)
        replace HK := Lib.hid (HK.out.keep hb)
        replace HB := bel_tr HB hb
        clear hb
        clear k0 k1 k2 k3

        go_wp2_with fail
        refine Sch.wp_region_tree (Sb2 w.heap.size (w.heap.size + 1) (.slice a xs.length n) (.slice b ys.length m) (.slice p us.length j) (.slice q vs.length k)) (.take 0 (.take 2 (.one 1 (.one 3 (.take 4 (.take 5 (.take 6 (.take 8 (.one 7 (.one 9 (.take 10 (.take 11 (.take 12 (.take 13 (.take 14 (.take 16 (.take 17 (.one 15 (.one 18 (.take 19 (.take 20 (.take 21 (.take 22 (.take 23 (.one 24 (.take 25 (.take 26 .done))))))))))))))))))))))))))) (by kernel_rfl) (by kernel_rfl) (HK.out.keep ((Below.refl _ _).drew)) ?_
        have hb : Below w3.heap.size w3 w3.drew := (Below.refl _ _).drew
        replace HX := Lib.hid (HX.out.keep hb)
        replace HY := Lib.hid (HY.out.keep hb)
        replace HP := Lib.hid (HP.out.keep hb)
        replace HQ := Lib.hid (HQ.out.keep hb)
        replace HK := Lib.hid (HK.out.keep hb)
        replace HB := bel_tr HB hb
        clear hb
        generalize w3.drew = w4 at *
        refine tree_load _ _ _ _ _ rfl rfl rfl rfl (by first | exact Sb2.la | exact Sb2.l) rfl ?_
        simp only [Act.put, List.setIfInBounds_toArray, List.set_cons_zero, List.set_cons_succ]
        refine tree_load _ _ _ _ _ rfl rfl rfl rfl (by first | exact Sb2.la | exact Sb2.l) rfl ?_
        simp only [Act.put, List.setIfInBounds_toArray, List.set_cons_zero, List.set_cons_succ]
        refine Sch.tree_e rfl rfl (fun K hK => ?_)
        go_wp2_with fail
        refine (HV1.out _ HX.out HY.out).mono ?_
        rintro e w5 ⟨rfl, hb⟩
        replace HX := Lib.hid (HX.out.keep hb)
        replace HY := Lib.hid (HY.out.keep hb)
        replace HP := Lib.hid (HP.out.keep hb)
        replace HQ := Lib.hid (HQ.out.keep hb)
        replace HK := Lib.hid (HK.out.keep hb)
        replace HB := bel_tr HB hb
        clear hb
        refine hK _ _ HK.out ?_
        clear hK K
        refine Sch.tree_e rfl rfl (fun K hK => ?_)
        go_wp2_with fail
        refine (HV2.out _ HX.out HY.out).mono ?_
        rintro e w6 ⟨rfl, hb⟩
        replace HX := Lib.hid (HX.out.keep hb)
        replace HY := Lib.hid (HY.out.keep hb)
        replace HP := Lib.hid (HP.out.keep hb)
        replace HQ := Lib.hid (HQ.out.keep hb)
        replace HK := Lib.hid (HK.out.keep hb)
        replace HB := bel_tr HB hb
        clear hb
        refine hK _ _ HK.out ?_
        clear hK K
        refine Sch.tree_q rfl rfl (fun K hK => ?_)
        go_big_quiet_op
        first | refine hK _ ?_ | refine ⟨_, fun _ _ => rfl, hK _ ?_⟩
        clear hK K
        refine Sch.tree_q rfl rfl (fun K hK => ?_)
        go_big_quiet_op
        first | refine hK _ ?_ | refine ⟨_, fun _ _ => rfl, hK _ ?_⟩
        clear hK K
        refine tree_load _ _ _ _ _ rfl rfl rfl rfl (by first | exact Sb2.la | exact Sb2.l) rfl ?_
        simp only [Act.put, List.setIfInBounds_toArray, List.set_cons_zero, List.set_cons_succ]
        refine tree_load _ _ _ _ _ rfl rfl rfl rfl (by first | exact Sb2.la | exact Sb2.l) rfl ?_
        simp only [Act.put, List.setIfInBounds_toArray, List.set_cons_zero, List.set_cons_succ]
        refine Sch.tree_e rfl rfl (fun K hK => ?_)
        go_wp2_with fail
        refine (HI1.out _ HX.out HY.out).mono ?_
        rintro e w7 ⟨rfl, hb⟩
        replace HX := Lib.hid (HX.out.keep hb)
        replace HY := Lib.hid (HY.out.keep hb)
        replace HP := Lib.hid (HP.out.keep hb)
        replace HQ := Lib.hid (HQ.out.keep hb)
        replace HK := Lib.hid (HK.out.keep hb)
        replace HB := bel_tr HB hb
        clear hb
        refine hK _ _ HK.out ?_
        clear hK K
        refine Sch.tree_e rfl rfl (fun K hK => ?_)
        go_wp2_with fail
        refine (HI2.out _ HX.out HY.out).mono ?_
        rintro e w8 ⟨rfl, hb⟩
        replace HX := Lib.hid (HX.out.keep hb)
        replace HY := Lib.hid (HY.out.keep hb)
        replace HP := Lib.hid (HP.out.keep hb)
        replace HQ := Lib.hid (HQ.out.keep hb)
        replace HK := Lib.hid (HK.out.keep hb)
        replace HB := bel_tr HB hb
        clear hb
        refine hK _ _ HK.out ?_
        clear hK K
        refine Sch.tree_q rfl rfl (fun K hK => ?_)
        go_big_quiet_op
        first | refine hK _ ?_ | refine ⟨_, fun _ _ => rfl, hK _ ?_⟩
        clear hK K
        refine Sch.tree_q rfl rfl (fun K hK => ?_)
        go_big_quiet_op
        first | refine hK _ ?_ | refine ⟨_, fun _ _ => rfl, hK _ ?_⟩
        clear hK K
        refine Sch.tree_q rfl rfl (fun K hK => ?_)
        go_big_quiet_op
        first | refine hK _ ?_ | refine ⟨_, fun _ _ => rfl, hK _ ?_⟩
        clear hK K
        refine tree_load _ _ _ _ _ rfl rfl rfl rfl (by first | exact Sb2.la | exact Sb2.l) rfl ?_
        simp only [Act.put, List.setIfInBounds_toArray, List.set_cons_zero, List.set_cons_succ]
        refine tree_load _ _ _ _ _ rfl rfl rfl rfl (by first | exact Sb2.la | exact Sb2.l) rfl ?_
        simp only [Act.put, List.setIfInBounds_toArray, List.set_cons_zero, List.set_cons_succ]
        refine tree_load _ _ _ _ _ rfl rfl rfl rfl (by first | exact Sb2.la | exact Sb2.l) rfl ?_
        simp only [Act.put, List.setIfInBounds_toArray, List.set_cons_zero, List.set_cons_succ]
        refine tree_load _ _ _ _ _ rfl rfl rfl rfl (by first | exact Sb2.la | exact Sb2.l) rfl ?_
        simp only [Act.put, List.setIfInBounds_toArray, List.set_cons_zero, List.set_cons_succ]
        refine Sch.tree_e rfl rfl (fun K hK => ?_)
        go_wp2_with fail
        refine (HE1.out _ HX.out HY.out HP.out HQ.out).mono ?_
        rintro e w9 ⟨rfl, hb⟩
        replace HX := Lib.hid (HX.out.keep hb)
        replace HY := Lib.hid (HY.out.keep hb)
        replace HP := Lib.hid (HP.out.keep hb)
        replace HQ := Lib.hid (HQ.out.keep hb)
        replace HK := Lib.hid (HK.out.keep hb)
        replace HB := bel_tr HB hb
        clear hb
        refine hK _ _ HK.out ?_
        clear hK K
        refine Sch.tree_e rfl rfl (fun K hK => ?_)
        go_wp2_with fail
        refine (HE2.out _ HX.out HY.out HP.out HQ.out).mono ?_
        rintro e w10 ⟨rfl, hb⟩
        replace HX := Lib.hid (HX.out.keep hb)
        replace HY := Lib.hid (HY.out.keep hb)
        replace HP := Lib.hid (HP.out.keep hb)
        replace HQ := Lib.hid (HQ.out.keep hb)
        replace HK := Lib.hid (HK.out.keep hb)
        replace HB := bel_tr HB hb
        clear hb
        refine hK _ _ HK.out ?_
        clear hK K
        refine Sch.tree_q rfl rfl (fun K hK => ?_)
        go_big_quiet_op
        first | refine hK _ ?_ | refine ⟨_, fun _ _ => rfl, hK _ ?_⟩
        clear hK K
        refine Sch.tree_q rfl rfl (fun K hK => ?_)
        go_big_quiet_op
        first | refine hK _ ?_ | refine ⟨_, fun _ _ => rfl, hK _ ?_⟩
        clear hK K
        refine Sch.tree_q rfl rfl (fun K hK => ?_)
        go_big_quiet_op
        first | refine hK _ ?_ | refine ⟨_, fun _ _ => rfl, hK _ ?_⟩
        clear hK K
        refine tree_load _ _ _ _ _ rfl rfl rfl rfl (by first | exact Sb2.la | exact Sb2.l) rfl ?_
        simp only [Act.put, List.setIfInBounds_toArray, List.set_cons_zero, List.set_cons_succ]
        refine tree_load _ _ _ _ _ rfl rfl rfl rfl (by first | exact Sb2.la | exact Sb2.l) rfl ?_
        simp only [Act.put, List.setIfInBounds_toArray, List.set_cons_zero, List.set_cons_succ]
        refine Sch.tree_e rfl rfl (fun K hK => ?_)
        go_wp2_with fail
        refine (HE3.out _ HX.out HY.out).mono ?_
        rintro e w11 ⟨rfl, hb⟩
        replace HX := Lib.hid (HX.out.keep hb)
        replace HY := Lib.hid (HY.out.keep hb)
        replace HP := Lib.hid (HP.out.keep hb)
        replace HQ := Lib.hid (HQ.out.keep hb)
        replace HK := Lib.hid (HK.out.keep hb)
        replace HB := bel_tr HB hb
        clear hb
        refine hK _ _ HK.out ?_
        clear hK K
        refine Sch.tree_q rfl rfl (fun K hK => ?_)
        go_big_quiet_op
        first | refine hK _ ?_ | refine ⟨_, fun _ _ => rfl, hK _ ?_⟩
        clear hK K
        refine Sch.tree_q rfl rfl (fun K hK => ?_)
        go_big_quiet_op
        first | refine hK _ ?_ | refine ⟨_, fun _ _ => rfl, hK _ ?_⟩
        clear hK K
        refine Sch.tree_n ?_
        have k0 := HK.out.1.1
        have k1 := HK.out.1.2
        have k2 := HK.out.2.1
        have k3 := HK.out.2.2
        go_wp2_with fail
        refine (HV2.out _ HX.out HY.out).mono ?_
        rintro e w12 ⟨rfl, hb⟩
        replace HX := Lib.hid (HX.out.keep hb)
        replace HY := Lib.hid (HY.out.keep hb)
        replace HP := Lib.hid (HP.out.keep hb)
        replace HQ := Lib.hid (HQ.out.keep hb)
        replace HK := Lib.hid (HK.out.keep hb)
        replace HB := bel_tr HB hb
        clear hb
        clear k0 k1 k2 k3
        have k0 := HK.out.1.1
        have k1 := HK.out.1.2
        have k2 := HK.out.2.1
        have k3 := HK.out.2.2
        go_wp2_with fail
        refine (HCt.out _ HX.out HY.out).mono ?_
        rintro e w13 ⟨rfl, hb⟩
        replace HX := Lib.hid (HX.out.keep hb)
        replace HY := Lib.hid (HY.out.keep hb)
        replace HP := Lib.hid (HP.out.keep hb)
        replace HQ := Lib.hid (HQ.out.keep hb)
        replace HK := Lib.hid (HK.out.keep hb)
        replace HB := bel_tr HB hb
        clear hb
        clear k0 k1 k2 k3
        have k0 := HK.out.1.1
        have k1 := HK.out.1.2
        have k2 := HK.out.2.1
        have k3 := HK.out.2.2
        go_wp2_with fail
        refine (HSz.out _ HX.out HY.out).mono ?_
        rintro e w14 ⟨rfl, hb⟩
        replace HX := Lib.hid (HX.out.keep hb)
        replace HY := Lib.hid (HY.out.keep hb)
        replace HP := Lib.hid (HP.out.keep hb)
        replace HQ := Lib.hid (HQ.out.keep hb)
        replace HK := Lib.hid (HK.out.keep hb)
        replace HB := bel_tr HB hb
        clear hb
        clear k0 k1 k2 k3

        go_wp2_with fail
        refine (HKn.out _).mono ?_
        rintro e w15 ⟨rfl, hb⟩
        replace HX := Lib.hid (HX.out.keep hb)
        replace HY := Lib.hid (HY.out.keep hb)
        replace HP := Lib.hid (HP.out.keep hb)
        replace HQ := Lib.hid (HQ.out.keep hb)
        replace HK := Lib.hid (HK.out.keep hb)
        replace HB := bel_tr HB hb
        clear hb
        go_wp2_with fail
        go_ret
        exact ⟨rfl, HB.out⟩
      · rw [hv] at HV1 HV2
        have hvv := (valid_vc _).1 hv
        have n1 := comp_len hvv
        have HO := Lib.hid (fun w h1 h2 => own_any xs ys a b n m w h1 h2 HN1.out HN2.out (by omega) (by omega))
        have HC : Hid (∀ a b n m w, RowD w a xs → RowD w b ys → (a = none → n = 0) → Calls Try.prog 20 #[cv (.slice a xs.length n) (.slice b ys.length m)] w fun e w' => ∃ x y, e = .returned (.tuple #[cv x y, .int .i64 0]) ∧ Ov w' w.heap.size x y (compC (xs, ys)) ∧ Below w.heap.size w w') := fun a b n m w h1 h2 h3 => by
          have h := compact_any xs ys a b n m w h1 h2 h3 (by omega) (by omega)
          rw [show compB (xs, ys) = (compC (xs, ys), 0) by unfold compB; rw [if_pos hv]] at h
          exact h
        have HR := Lib.hid (fun w h1 h2 => compact_ref xs ys a b n m w hvv h1 h2 HN1.out HA1.out HN2.out HA2.out (by omega) (by omega))
        have HS2 := Lib.hid (fun w h1 h2 => size_ref xs ys a b n m w hvv h1 h2 (by omega) (by omega))
        rw [show sizeB (xs, ys) = sizeC (xs, ys) by unfold sizeB; rw [if_pos hv]] at HSz
        have HE4 := Lib.hid (fun a b p q n m j k w h1 h2 h3 h4 => equal_ref xs ys xs ys a b p q n m j k w h1 h2 h3 h4 (by omega) (by omega) (by omega) (by omega))
        rw [show decide ((xs, ys) = (xs, ys)) = true by simp] at HE4
        generalize compC (xs, ys) = S at *
        obtain ⟨s1, s2⟩ := S
        simp only at n1
        have HL1 : Hid (s1.length ≤ 100 ∧ s2.length ≤ 100) := by show _ ∧ _; omega
        have HG := Lib.hid (fun x y u v w hx hy hu hv => gives_true (s1, s2) x y u v 0 w hx hy hu hv ⟨by simp only; omega, by simp only; omega⟩)
        clear hv hvv n1 h1 h2
        generalize isCompR (xs, ys) = ic at *
        generalize decide ((xs, ys) = (us, vs)) = eqv at *
        generalize sizeC (xs, ys) = sz at *
        have e1 : (ic == ic) = true := by simp
        have e2 : (eqv == eqv) = true := by simp
        have e3 : (sz == sz) = true := by simp
        go_enter Try.func3, Try.ntmps3
        go_wp2_with fail
        generalize (w.alloc (cbox (.slice a xs.length n) (.slice b ys.length m))).alloc (cbox (.slice p us.length j) (.slice q vs.length k)) = w1 at *
        refine (HLi.out _).mono ?_
        rintro e w2 ⟨rfl, hb⟩
        replace HX := Lib.hid (HX.out.keep hb)
        replace HY := Lib.hid (HY.out.keep hb)
        replace HP := Lib.hid (HP.out.keep hb)
        replace HQ := Lib.hid (HQ.out.keep hb)
        replace HK := Lib.hid (HK.out.keep hb)
        replace HB := bel_tr HB hb
        clear hb
        clear k0 k1
        have k0 := HK.out.1.1
        have k1 := HK.out.1.2
        have k2 := HK.out.2.1
        have k3 := HK.out.2.2
        go_wp2_with fail
        refine (HLj.out _).mono ?_
        rintro e w3 ⟨rfl, hb⟩
        replace HX := Lib.hid (HX.out.keep hb)
        replace HY := Lib.hid (HY.out.keep hb)
        replace HP := Lib.hid (HP.out.keep hb)
        replace HQ := Lib.hid (HQ.out.keep hb)
        replace HK := Lib.hid (HK.out.keep hb)
        replace HB := bel_tr HB hb
        clear hb
        clear k0 k1 k2 k3

        go_wp2_with fail
        refine Sch.wp_region_tree (Sb2 w.heap.size (w.heap.size + 1) (.slice a xs.length n) (.slice b ys.length m) (.slice p us.length j) (.slice q vs.length k)) (.take 0 (.take 2 (.one 1 (.one 3 (.take 4 (.take 5 (.take 6 (.take 8 (.one 7 (.one 9 (.take 10 (.take 11 (.take 12 (.take 13 (.take 14 (.take 16 (.take 17 (.one 15 (.one 18 (.take 19 (.take 20 (.take 21 (.take 22 (.take 23 (.one 24 (.take 25 (.take 26 .done))))))))))))))))))))))))))) (by kernel_rfl) (by kernel_rfl) (HK.out.keep ((Below.refl _ _).drew)) ?_
        have hb : Below w3.heap.size w3 w3.drew := (Below.refl _ _).drew
        replace HX := Lib.hid (HX.out.keep hb)
        replace HY := Lib.hid (HY.out.keep hb)
        replace HP := Lib.hid (HP.out.keep hb)
        replace HQ := Lib.hid (HQ.out.keep hb)
        replace HK := Lib.hid (HK.out.keep hb)
        replace HB := bel_tr HB hb
        clear hb
        generalize w3.drew = w4 at *
        refine tree_load _ _ _ _ _ rfl rfl rfl rfl (by first | exact Sb2.la | exact Sb2.l) rfl ?_
        simp only [Act.put, List.setIfInBounds_toArray, List.set_cons_zero, List.set_cons_succ]
        refine tree_load _ _ _ _ _ rfl rfl rfl rfl (by first | exact Sb2.la | exact Sb2.l) rfl ?_
        simp only [Act.put, List.setIfInBounds_toArray, List.set_cons_zero, List.set_cons_succ]
        refine Sch.tree_e rfl rfl (fun K hK => ?_)
        go_wp2_with fail
        refine (HV1.out _ HX.out HY.out).mono ?_
        rintro e w5 ⟨rfl, hb⟩
        replace HX := Lib.hid (HX.out.keep hb)
        replace HY := Lib.hid (HY.out.keep hb)
        replace HP := Lib.hid (HP.out.keep hb)
        replace HQ := Lib.hid (HQ.out.keep hb)
        replace HK := Lib.hid (HK.out.keep hb)
        replace HB := bel_tr HB hb
        clear hb
        refine hK _ _ HK.out ?_
        clear hK K
        refine Sch.tree_e rfl rfl (fun K hK => ?_)
        go_wp2_with fail
        refine (HV2.out _ HX.out HY.out).mono ?_
        rintro e w6 ⟨rfl, hb⟩
        replace HX := Lib.hid (HX.out.keep hb)
        replace HY := Lib.hid (HY.out.keep hb)
        replace HP := Lib.hid (HP.out.keep hb)
        replace HQ := Lib.hid (HQ.out.keep hb)
        replace HK := Lib.hid (HK.out.keep hb)
        replace HB := bel_tr HB hb
        clear hb
        refine hK _ _ HK.out ?_
        clear hK K
        refine Sch.tree_q rfl rfl (fun K hK => ?_)
        go_big_quiet_op
        first | refine hK _ ?_ | refine ⟨_, fun _ _ => rfl, hK _ ?_⟩
        clear hK K
        refine Sch.tree_q rfl rfl (fun K hK => ?_)
        go_big_quiet_op
        first | refine hK _ ?_ | refine ⟨_, fun _ _ => rfl, hK _ ?_⟩
        clear hK K
        refine tree_load _ _ _ _ _ rfl rfl rfl rfl (by first | exact Sb2.la | exact Sb2.l) rfl ?_
        simp only [Act.put, List.setIfInBounds_toArray, List.set_cons_zero, List.set_cons_succ]
        refine tree_load _ _ _ _ _ rfl rfl rfl rfl (by first | exact Sb2.la | exact Sb2.l) rfl ?_
        simp only [Act.put, List.setIfInBounds_toArray, List.set_cons_zero, List.set_cons_succ]
        refine Sch.tree_e rfl rfl (fun K hK => ?_)
        go_wp2_with fail
        refine (HI1.out _ HX.out HY.out).mono ?_
        rintro e w7 ⟨rfl, hb⟩
        replace HX := Lib.hid (HX.out.keep hb)
        replace HY := Lib.hid (HY.out.keep hb)
        replace HP := Lib.hid (HP.out.keep hb)
        replace HQ := Lib.hid (HQ.out.keep hb)
        replace HK := Lib.hid (HK.out.keep hb)
        replace HB := bel_tr HB hb
        clear hb
        refine hK _ _ HK.out ?_
        clear hK K
        refine Sch.tree_e rfl rfl (fun K hK => ?_)
        go_wp2_with fail
        refine (HI2.out _ HX.out HY.out).mono ?_
        rintro e w8 ⟨rfl, hb⟩
        replace HX := Lib.hid (HX.out.keep hb)
        replace HY := Lib.hid (HY.out.keep hb)
        replace HP := Lib.hid (HP.out.keep hb)
        replace HQ := Lib.hid (HQ.out.keep hb)
        replace HK := Lib.hid (HK.out.keep hb)
        replace HB := bel_tr HB hb
        clear hb
        refine hK _ _ HK.out ?_
        clear hK K
        refine Sch.tree_q rfl rfl (fun K hK => ?_)
        go_big_quiet_op
        first | refine hK _ ?_ | refine ⟨_, fun _ _ => rfl, hK _ ?_⟩
        clear hK K
        refine Sch.tree_q rfl rfl (fun K hK => ?_)
        go_big_quiet_op
        first | refine hK _ ?_ | refine ⟨_, fun _ _ => rfl, hK _ ?_⟩
        clear hK K
        refine Sch.tree_q rfl rfl (fun K hK => ?_)
        go_big_quiet_op
        first | refine hK _ ?_ | refine ⟨_, fun _ _ => rfl, hK _ ?_⟩
        clear hK K
        refine tree_load _ _ _ _ _ rfl rfl rfl rfl (by first | exact Sb2.la | exact Sb2.l) rfl ?_
        simp only [Act.put, List.setIfInBounds_toArray, List.set_cons_zero, List.set_cons_succ]
        refine tree_load _ _ _ _ _ rfl rfl rfl rfl (by first | exact Sb2.la | exact Sb2.l) rfl ?_
        simp only [Act.put, List.setIfInBounds_toArray, List.set_cons_zero, List.set_cons_succ]
        refine tree_load _ _ _ _ _ rfl rfl rfl rfl (by first | exact Sb2.la | exact Sb2.l) rfl ?_
        simp only [Act.put, List.setIfInBounds_toArray, List.set_cons_zero, List.set_cons_succ]
        refine tree_load _ _ _ _ _ rfl rfl rfl rfl (by first | exact Sb2.la | exact Sb2.l) rfl ?_
        simp only [Act.put, List.setIfInBounds_toArray, List.set_cons_zero, List.set_cons_succ]
        refine Sch.tree_e rfl rfl (fun K hK => ?_)
        go_wp2_with fail
        refine (HE1.out _ HX.out HY.out HP.out HQ.out).mono ?_
        rintro e w9 ⟨rfl, hb⟩
        replace HX := Lib.hid (HX.out.keep hb)
        replace HY := Lib.hid (HY.out.keep hb)
        replace HP := Lib.hid (HP.out.keep hb)
        replace HQ := Lib.hid (HQ.out.keep hb)
        replace HK := Lib.hid (HK.out.keep hb)
        replace HB := bel_tr HB hb
        clear hb
        refine hK _ _ HK.out ?_
        clear hK K
        refine Sch.tree_e rfl rfl (fun K hK => ?_)
        go_wp2_with fail
        refine (HE2.out _ HX.out HY.out HP.out HQ.out).mono ?_
        rintro e w10 ⟨rfl, hb⟩
        replace HX := Lib.hid (HX.out.keep hb)
        replace HY := Lib.hid (HY.out.keep hb)
        replace HP := Lib.hid (HP.out.keep hb)
        replace HQ := Lib.hid (HQ.out.keep hb)
        replace HK := Lib.hid (HK.out.keep hb)
        replace HB := bel_tr HB hb
        clear hb
        refine hK _ _ HK.out ?_
        clear hK K
        refine Sch.tree_q rfl rfl (fun K hK => ?_)
        go_big_quiet_op
        first | refine hK _ ?_ | refine ⟨_, fun _ _ => rfl, hK _ ?_⟩
        clear hK K
        refine Sch.tree_q rfl rfl (fun K hK => ?_)
        go_big_quiet_op
        first | refine hK _ ?_ | refine ⟨_, fun _ _ => rfl, hK _ ?_⟩
        clear hK K
        refine Sch.tree_q rfl rfl (fun K hK => ?_)
        go_big_quiet_op
        first | refine hK _ ?_ | refine ⟨_, fun _ _ => rfl, hK _ ?_⟩
        clear hK K
        refine tree_load _ _ _ _ _ rfl rfl rfl rfl (by first | exact Sb2.la | exact Sb2.l) rfl ?_
        simp only [Act.put, List.setIfInBounds_toArray, List.set_cons_zero, List.set_cons_succ]
        refine tree_load _ _ _ _ _ rfl rfl rfl rfl (by first | exact Sb2.la | exact Sb2.l) rfl ?_
        simp only [Act.put, List.setIfInBounds_toArray, List.set_cons_zero, List.set_cons_succ]
        refine Sch.tree_e rfl rfl (fun K hK => ?_)
        go_wp2_with fail
        refine (HE3.out _ HX.out HY.out).mono ?_
        rintro e w11 ⟨rfl, hb⟩
        replace HX := Lib.hid (HX.out.keep hb)
        replace HY := Lib.hid (HY.out.keep hb)
        replace HP := Lib.hid (HP.out.keep hb)
        replace HQ := Lib.hid (HQ.out.keep hb)
        replace HK := Lib.hid (HK.out.keep hb)
        replace HB := bel_tr HB hb
        clear hb
        refine hK _ _ HK.out ?_
        clear hK K
        refine Sch.tree_q rfl rfl (fun K hK => ?_)
        go_big_quiet_op
        first | refine hK _ ?_ | refine ⟨_, fun _ _ => rfl, hK _ ?_⟩
        clear hK K
        refine Sch.tree_q rfl rfl (fun K hK => ?_)
        go_big_quiet_op
        first | refine hK _ ?_ | refine ⟨_, fun _ _ => rfl, hK _ ?_⟩
        clear hK K
        refine Sch.tree_n ?_
        have k0 := HK.out.1.1
        have k1 := HK.out.1.2
        have k2 := HK.out.2.1
        have k3 := HK.out.2.2
        go_wp2_with fail
        refine (HV2.out _ HX.out HY.out).mono ?_
        rintro e w12 ⟨rfl, hb⟩
        replace HX := Lib.hid (HX.out.keep hb)
        replace HY := Lib.hid (HY.out.keep hb)
        replace HP := Lib.hid (HP.out.keep hb)
        replace HQ := Lib.hid (HQ.out.keep hb)
        replace HK := Lib.hid (HK.out.keep hb)
        replace HB := bel_tr HB hb
        clear hb
        clear k0 k1 k2 k3
        have k0 := HK.out.1.1
        have k1 := HK.out.1.2
        have k2 := HK.out.2.1
        have k3 := HK.out.2.2
        go_wp2_with fail
        refine (HO.out _ HX.out HY.out).mono ?_
        rintro e w13 ⟨x3, y3, rfl, ho, hb⟩
        obtain ⟨a3, n3, b3, m3, rfl, rfl⟩ := ho.shape
        have HS3 := Lib.hid (SV.of_od ho.1)
        have HS4 := Lib.hid (SV.of_od ho.2)
        clear ho
        simp only at HS3 HS4
        replace HX := Lib.hid (HX.out.keep hb)
        replace HY := Lib.hid (HY.out.keep hb)
        replace HP := Lib.hid (HP.out.keep hb)
        replace HQ := Lib.hid (HQ.out.keep hb)
        replace HK := Lib.hid (HK.out.keep hb)
        replace HB := bel_tr HB hb
        clear hb
        have HO5 := Lib.hid (two_new w13 (.slice a3 xs.length n3) (.slice b3 ys.length m3))
        have hb := bel_box w13 (cbox (.slice a3 xs.length n3) (.slice b3 ys.length m3))
        replace HX := Lib.hid (HX.out.keep hb)
        replace HY := Lib.hid (HY.out.keep hb)
        replace HP := Lib.hid (HP.out.keep hb)
        replace HQ := Lib.hid (HQ.out.keep hb)
        replace HK := Lib.hid (HK.out.keep hb)
        replace HS3 := Lib.hid (HS3.out.keep hb)
        replace HS4 := Lib.hid (HS4.out.keep hb)
        replace HB := bel_tr HB hb
        clear hb
        clear k0 k1 k2 k3
        have k4 := HO5.out.1
        have k5 := HO5.out.2
        go_wp2_with fail
        generalize w13.alloc (cbox (.slice a3 xs.length n3) (.slice b3 ys.length m3)) = w14 at *
        generalize w13.heap.size = g5 at *
        clear k4 k5
        have HXc := HX
        have HYc := HY
        have HKc := HK
        have HS3c := HS3
        have HS4c := HS4
        have HO5c := HO5
        have HBc := HB
        refine (HC.out a3 b3 n3 m3 _ (SV.r HS3.out).1 (SV.r HS4.out).1 (SV.r HS3.out).2.1).mono ?_
        rintro e w15 ⟨x6, y6, rfl, ho, hb⟩
        obtain ⟨a6, n6, b6, m6, rfl, rfl⟩ := ho.shape
        have HD1 := Lib.hid (Wd.of_od ho.1)
        have HD2 := Lib.hid (Wd.of_od ho.2)
        have HS5 := Lib.hid (SV.of_od ho.1)
        have HS6 := Lib.hid (SV.of_od ho.2)
        clear ho
        simp only at HS5 HS6 HD1 HD2
        have HW := Lib.hid hb
        replace HX := Lib.hid (HX.out.keep hb)
        replace HY := Lib.hid (HY.out.keep hb)
        replace HP := Lib.hid (HP.out.keep hb)
        replace HQ := Lib.hid (HQ.out.keep hb)
        replace HK := Lib.hid (HK.out.keep hb)
        replace HS3 := Lib.hid (HS3.out.keep hb)
        replace HS4 := Lib.hid (HS4.out.keep hb)
        replace HO5 := Lib.hid (HO5.out.keep hb)
        replace HB := bel_tr HB hb
        clear hb
        have HO6 := Lib.hid (two_new w15 (.slice a6 s1.length n6) (.slice b6 s2.length m6))
        have hb := bel_box w15 (cbox (.slice a6 s1.length n6) (.slice b6 s2.length m6))
        have hlt6 : w14.heap.size ≤ w15.heap.size := HW.out.size
        replace HW := bel_tr HW hb
        replace HX := Lib.hid (HX.out.keep hb)
        replace HY := Lib.hid (HY.out.keep hb)
        replace HP := Lib.hid (HP.out.keep hb)
        replace HQ := Lib.hid (HQ.out.keep hb)
        replace HK := Lib.hid (HK.out.keep hb)
        replace HS3 := Lib.hid (HS3.out.keep hb)
        replace HS4 := Lib.hid (HS4.out.keep hb)
        replace HO5 := Lib.hid (HO5.out.keep hb)
        replace HS5 := Lib.hid (HS5.out.keep hb)
        replace HS6 := Lib.hid (HS6.out.keep hb)
        replace HD1 := Lib.hid (HD1.out.keep hb)
        replace HD2 := Lib.hid (HD2.out.keep hb)
        replace HB := bel_tr HB hb
        clear hb
        go_wp2_with fail
        generalize w15.alloc (cbox (.slice a6 s1.length n6) (.slice b6 s2.length m6)) = w16 at *
        generalize w15.heap.size = g6 at *
        have HK9 : Hid ((Sb2 w.heap.size g6 (.slice a xs.length n) (.slice b ys.length m) (.slice a6 s1.length n6) (.slice b6 s2.length m6)) w16) := ⟨HK.out.1, HO6.out⟩
        refine Sch.wp_region_tree (Sb2 w.heap.size g6 (.slice a xs.length n) (.slice b ys.length m) (.slice a6 s1.length n6) (.slice b6 s2.length m6)) (.take 0 (.take 1 (.take 2 (.one 3 (.one 4 (.take 5 (.take 6 (.take 7 (.take 9 (.one 8 (.one 10 (.take 11 (.take 12 .done))))))))))))) (by kernel_rfl) (by kernel_rfl) (HK9.out.keep ((Below.refl _ _).drew)) ?_
        have hb : Below w16.heap.size w16 w16.drew := (Below.refl _ _).drew
        replace HW := bel_tr HW hb
        replace HX := Lib.hid (HX.out.keep hb)
        replace HY := Lib.hid (HY.out.keep hb)
        replace HP := Lib.hid (HP.out.keep hb)
        replace HQ := Lib.hid (HQ.out.keep hb)
        replace HK := Lib.hid (HK.out.keep hb)
        replace HS3 := Lib.hid (HS3.out.keep hb)
        replace HS4 := Lib.hid (HS4.out.keep hb)
        replace HO5 := Lib.hid (HO5.out.keep hb)
        replace HS5 := Lib.hid (HS5.out.keep hb)
        replace HS6 := Lib.hid (HS6.out.keep hb)
        replace HD1 := Lib.hid (HD1.out.keep hb)
        replace HD2 := Lib.hid (HD2.out.keep hb)
        replace HO6 := Lib.hid (HO6.out.keep hb)
        replace HK9 := Lib.hid (HK9.out.keep hb)
        replace HB := bel_tr HB hb
        clear hb
        generalize w16.drew = w17 at *
        refine tree_load _ _ _ _ _ rfl rfl rfl rfl (by first | exact Sb2.la | exact Sb2.l) rfl ?_
        simp only [Act.put, List.setIfInBounds_toArray, List.set_cons_zero, List.set_cons_succ]
        refine Sch.tree_q rfl rfl (fun K hK => ?_)
        go_big_quiet_op
        first | refine hK _ ?_ | refine ⟨_, fun _ _ => rfl, hK _ ?_⟩
        clear hK K
        refine tree_load _ _ _ _ _ rfl rfl rfl rfl (by first | exact Sb2.la | exact Sb2.l) rfl ?_
        simp only [Act.put, List.setIfInBounds_toArray, List.set_cons_zero, List.set_cons_succ]
        refine Sch.tree_e rfl rfl (fun K hK => ?_)
        go_wp2_with fail
        refine (HR.out _ HX.out HY.out).mono ?_
        rintro e w18 ⟨x9, y9, rfl, hs1, hs2, hb⟩
        have HS7 := Lib.hid hs1
        have HS8 := Lib.hid hs2
        clear hs1 hs2
        replace HW := bel_tr HW hb
        replace HX := Lib.hid (HX.out.keep hb)
        replace HY := Lib.hid (HY.out.keep hb)
        replace HP := Lib.hid (HP.out.keep hb)
        replace HQ := Lib.hid (HQ.out.keep hb)
        replace HK := Lib.hid (HK.out.keep hb)
        replace HS3 := Lib.hid (HS3.out.keep hb)
        replace HS4 := Lib.hid (HS4.out.keep hb)
        replace HO5 := Lib.hid (HO5.out.keep hb)
        replace HS5 := Lib.hid (HS5.out.keep hb)
        replace HS6 := Lib.hid (HS6.out.keep hb)
        replace HD1 := Lib.hid (HD1.out.keep hb)
        replace HD2 := Lib.hid (HD2.out.keep hb)
        replace HO6 := Lib.hid (HO6.out.keep hb)
        replace HK9 := Lib.hid (HK9.out.keep hb)
        replace HB := bel_tr HB hb
        clear hb
        refine hK _ _ HK9.out ?_
        clear hK K
        refine Sch.tree_e rfl rfl (fun K hK => ?_)
        go_wp2_with fail
        refine (HG.out _ _ _ _ _ HS5.out HS6.out HS7.out HS8.out).mono ?_
        rintro e w19 ⟨rfl, hb⟩
        replace HW := bel_tr HW hb
        replace HX := Lib.hid (HX.out.keep hb)
        replace HY := Lib.hid (HY.out.keep hb)
        replace HP := Lib.hid (HP.out.keep hb)
        replace HQ := Lib.hid (HQ.out.keep hb)
        replace HK := Lib.hid (HK.out.keep hb)
        replace HS3 := Lib.hid (HS3.out.keep hb)
        replace HS4 := Lib.hid (HS4.out.keep hb)
        replace HO5 := Lib.hid (HO5.out.keep hb)
        replace HS5 := Lib.hid (HS5.out.keep hb)
        replace HS6 := Lib.hid (HS6.out.keep hb)
        replace HD1 := Lib.hid (HD1.out.keep hb)
        replace HD2 := Lib.hid (HD2.out.keep hb)
        replace HO6 := Lib.hid (HO6.out.keep hb)
        replace HK9 := Lib.hid (HK9.out.keep hb)
        replace HS7 := Lib.hid (HS7.out.keep hb)
        replace HS8 := Lib.hid (HS8.out.keep hb)
        replace HB := bel_tr HB hb
        clear hb
        refine hK _ _ HK9.out ?_
        clear hK K
        refine Sch.tree_q rfl rfl (fun K hK => ?_)
        go_big_quiet_op
        first | refine hK _ ?_ | refine ⟨_, fun _ _ => rfl, hK _ ?_⟩
        clear hK K
        refine Sch.tree_q rfl rfl (fun K hK => ?_)
        go_big_quiet_op
        first | refine hK _ ?_ | refine ⟨_, fun _ _ => rfl, hK _ ?_⟩
        clear hK K
        refine tree_load _ _ _ _ _ rfl rfl rfl rfl (by first | exact Sb2.la | exact Sb2.l) rfl ?_
        simp only [Act.put, List.setIfInBounds_toArray, List.set_cons_zero, List.set_cons_succ]
        refine tree_load _ _ _ _ _ rfl rfl rfl rfl (by first | exact Sb2.la | exact Sb2.l) rfl ?_
        simp only [Act.put, List.setIfInBounds_toArray, List.set_cons_zero, List.set_cons_succ]
        refine Sch.tree_e rfl rfl (fun K hK => ?_)
        go_wp2_with fail
        refine (HSz.out _ HX.out HY.out).mono ?_
        rintro e w20 ⟨rfl, hb⟩
        replace HW := bel_tr HW hb
        replace HX := Lib.hid (HX.out.keep hb)
        replace HY := Lib.hid (HY.out.keep hb)
        replace HP := Lib.hid (HP.out.keep hb)
        replace HQ := Lib.hid (HQ.out.keep hb)
        replace HK := Lib.hid (HK.out.keep hb)
        replace HS3 := Lib.hid (HS3.out.keep hb)
        replace HS4 := Lib.hid (HS4.out.keep hb)
        replace HO5 := Lib.hid (HO5.out.keep hb)
        replace HS5 := Lib.hid (HS5.out.keep hb)
        replace HS6 := Lib.hid (HS6.out.keep hb)
        replace HD1 := Lib.hid (HD1.out.keep hb)
        replace HD2 := Lib.hid (HD2.out.keep hb)
        replace HO6 := Lib.hid (HO6.out.keep hb)
        replace HK9 := Lib.hid (HK9.out.keep hb)
        replace HS7 := Lib.hid (HS7.out.keep hb)
        replace HS8 := Lib.hid (HS8.out.keep hb)
        replace HB := bel_tr HB hb
        clear hb
        refine hK _ _ HK9.out ?_
        clear hK K
        refine Sch.tree_e rfl rfl (fun K hK => ?_)
        go_wp2_with fail
        refine (HS2.out _ HX.out HY.out).mono ?_
        rintro e w21 ⟨rfl, hb⟩
        replace HW := bel_tr HW hb
        replace HX := Lib.hid (HX.out.keep hb)
        replace HY := Lib.hid (HY.out.keep hb)
        replace HP := Lib.hid (HP.out.keep hb)
        replace HQ := Lib.hid (HQ.out.keep hb)
        replace HK := Lib.hid (HK.out.keep hb)
        replace HS3 := Lib.hid (HS3.out.keep hb)
        replace HS4 := Lib.hid (HS4.out.keep hb)
        replace HO5 := Lib.hid (HO5.out.keep hb)
        replace HS5 := Lib.hid (HS5.out.keep hb)
        replace HS6 := Lib.hid (HS6.out.keep hb)
        replace HD1 := Lib.hid (HD1.out.keep hb)
        replace HD2 := Lib.hid (HD2.out.keep hb)
        replace HO6 := Lib.hid (HO6.out.keep hb)
        replace HK9 := Lib.hid (HK9.out.keep hb)
        replace HS7 := Lib.hid (HS7.out.keep hb)
        replace HS8 := Lib.hid (HS8.out.keep hb)
        replace HB := bel_tr HB hb
        clear hb
        refine hK _ _ HK9.out ?_
        clear hK K
        refine Sch.tree_q rfl rfl (fun K hK => ?_)
        go_big_quiet_op
        first | refine hK _ ?_ | refine ⟨_, fun _ _ => rfl, hK _ ?_⟩
        clear hK K
        refine Sch.tree_q rfl rfl (fun K hK => ?_)
        go_big_quiet_op
        first | refine hK _ ?_ | refine ⟨_, fun _ _ => rfl, hK _ ?_⟩
        clear hK K
        refine Sch.tree_n ?_
        clear HK9 HS7 HS8 HX HY HK HS3 HS4 HO5 HB HP HQ
        have k6 := HO6.out.1
        have k7 := HO6.out.2
        go_wp2_with fail
        clear k6 k7
        go_loopw [8, 83] (fun _ i wr => ∃ k : Nat, k ≤ s1.length ∧ i = .int .i64 (k : Int) ∧ Hid (Below w14.heap.size w14 wr) ∧ Hid (Bc wr g6 (.slice a6 s1.length n6) (.slice b6 s2.length m6)) ∧ Hid (Wd w14.heap.size g6 wr a6 s1.length) ∧ Hid (Wd w14.heap.size g6 wr b6 s2.length)) (fun _ i _ => s1.length - (intOf i).toNat)
        case atStart => exact ⟨0, Nat.zero_le _, rfl, HW, HO6, HD1, HD2⟩
        case round =>
          clear HW HO6 HD1 HD2 HS5 HS6
          obtain ⟨k, hk, rfl, HW, HO6, HD1, HD2⟩ := hrel
          by_cases hlt : k < s1.length
          · have hi1 : (k : Int) < (s1.length : Int) := by omega
            have hz0 : ¬ s1.length = 0 := by omega
            obtain ⟨g, rfl, hB, hG, hc⟩ := HD1.out.resolve_left hz0
            obtain ⟨⟨z, hz⟩, hf⟩ := hc k hlt
            have HBg := Lib.hid hB
            have HGg := Lib.hid hG
            clear hc hB hG
            have hz2 : ∃ v, wr.cell? ⟨g, k * 2 + 1, none⟩ = some v := ⟨_, hz⟩
            have HWn := Lib.hid (fun z => HW.out.setCell (p := ⟨g, k * 2 + 1, none⟩) HBg.out (.int .i64 z))
            have HOn := Lib.hid (fun z => Bc.set (i := k * 2 + 1) (z := .int .i64 z) HO6.out (by have := HGg.out; omega : g6 ≠ g))
            have HDa := Lib.hid (fun z => HD1.out.set g (k * 2 + 1) z)
            have HDb := Lib.hid (fun z => HD2.out.set g (k * 2 + 1) z)
            have k6 := HO6.out.1
            have k7 := HO6.out.2
            have hlk := HL1.out
            clear hz0
            go_wp2_with fail
            go_roundw
            case rel => exact ⟨k + 1, by omega, by go_num, HWn.out _, HOn.out _, HDa.out _, HDb.out _⟩
            case measure => simp [intOf]; omega
          · obtain rfl : k = s1.length := by omega
            have hi1 : ¬ (s1.length : Int) < (s1.length : Int) := by omega
            clear hlt
            have k6 := HO6.out.1
            have k7 := HO6.out.2
            go_wp2_with fail
            clear k6 k7
            generalize wr = w50 at *
            go_loopw [9, 99] (fun _ i wr => ∃ k : Nat, k ≤ s2.length ∧ i = .int .i64 (k : Int) ∧ Hid (Below w14.heap.size w14 wr) ∧ Hid (Bc wr g6 (.slice a6 s1.length n6) (.slice b6 s2.length m6)) ∧ Hid (Wd w14.heap.size g6 wr a6 s1.length) ∧ Hid (Wd w14.heap.size g6 wr b6 s2.length)) (fun _ i _ => s2.length - (intOf i).toNat)
            case atStart => exact ⟨0, Nat.zero_le _, rfl, HW, HO6, HD1, HD2⟩
            case round =>
              clear HW HO6 HD1 HD2
              obtain ⟨k, hk, rfl, HW, HO6, HD1, HD2⟩ := hrel
              by_cases hlt : k < s2.length
              · have hi1 : (k : Int) < (s2.length : Int) := by omega
                have hz0 : ¬ s2.length = 0 := by omega
                obtain ⟨g, rfl, hB, hG, hc⟩ := HD2.out.resolve_left hz0
                obtain ⟨⟨z, hz⟩, hf⟩ := hc k hlt
                have HBg := Lib.hid hB
                have HGg := Lib.hid hG
                clear hc hB hG
                have hz2 : ∃ v, wr.cell? ⟨g, k * 2 + 1, none⟩ = some v := ⟨_, hz⟩
                have HWn := Lib.hid (fun z => HW.out.setCell (p := ⟨g, k * 2 + 1, none⟩) HBg.out (.int .i64 z))
                have HOn := Lib.hid (fun z => Bc.set (i := k * 2 + 1) (z := .int .i64 z) HO6.out (by have := HGg.out; omega : g6 ≠ g))
                have HDa := Lib.hid (fun z => HD1.out.set g (k * 2 + 1) z)
                have HDb := Lib.hid (fun z => HD2.out.set g (k * 2 + 1) z)
                have k6 := HO6.out.1
                have k7 := HO6.out.2
                have hlk := HL1.out
                clear hz0
                go_wp2_with fail
                go_roundw
                case rel => exact ⟨k + 1, by omega, by go_num, HWn.out _, HOn.out _, HDa.out _, HDb.out _⟩
                case measure => simp [intOf]; omega
              · obtain rfl : k = s2.length := by omega
                have hi1 : ¬ (s2.length : Int) < (s2.length : Int) := by omega
                clear hlt
                have HX := Lib.hid (HXc.out.keep HW.out)
                have HY := Lib.hid (HYc.out.keep HW.out)
                have HK := Lib.hid (HKc.out.keep HW.out)
                have HS3 := Lib.hid (HS3c.out.keep HW.out)
                have HS4 := Lib.hid (HS4c.out.keep HW.out)
                have HO5 := Lib.hid (HO5c.out.keep HW.out)
                have HB := bel_tr HBc HW.out
                have k0 := HK.out.1.1
                have k1 := HK.out.1.2
                have k4 := HO5.out.1
                have k5 := HO5.out.2
                go_wp2_with fail
                refine (HE4.out a3 b3 a b n3 m3 n m _ (SV.r HS3.out).1 (SV.r HS4.out).1 HX.out HY.out).mono ?_
                rintro e w61 ⟨rfl, hb⟩
                replace HB := bel_tr HB hb
                clear hb
                clear k0 k1 k4 k5
                go_wp2_with fail
                refine (HKn.out _).mono ?_
                rintro e w62 ⟨rfl, hb⟩
                replace HB := bel_tr HB hb
                clear hb
                go_wp2_with fail
                go_ret
                exact ⟨rfl, HB.out⟩
    · rw [show decide (us.length ≤ 40 ∧ vs.length ≤ 40) = false by simpa using h2] at HLj
      clear h1 h2
      go_enter Try.func3, Try.ntmps3
      go_wp2_with fail
      generalize (w.alloc (cbox (.slice a xs.length n) (.slice b ys.length m))).alloc (cbox (.slice p us.length j) (.slice q vs.length k)) = w1 at *
      refine (HLi.out _).mono ?_
      rintro e w2 ⟨rfl, hb⟩
      replace HX := Lib.hid (HX.out.keep hb)
      replace HY := Lib.hid (HY.out.keep hb)
      replace HP := Lib.hid (HP.out.keep hb)
      replace HQ := Lib.hid (HQ.out.keep hb)
      replace HK := Lib.hid (HK.out.keep hb)
      replace HB := bel_tr HB hb
      clear hb
      clear k0 k1
      have k0 := HK.out.1.1
      have k1 := HK.out.1.2
      have k2 := HK.out.2.1
      have k3 := HK.out.2.2
      go_wp2_with fail
      refine (HLj.out _).mono ?_
      rintro e w3 ⟨rfl, hb⟩
      replace HX := Lib.hid (HX.out.keep hb)
      replace HY := Lib.hid (HY.out.keep hb)
      replace HP := Lib.hid (HP.out.keep hb)
      replace HQ := Lib.hid (HQ.out.keep hb)
      replace HK := Lib.hid (HK.out.keep hb)
      replace HB := bel_tr HB hb
      clear hb
      clear k0 k1 k2 k3

      go_wp2_with fail
      refine (HKn.out _).mono ?_
      rintro e w4 ⟨rfl, hb⟩
      replace HX := Lib.hid (HX.out.keep hb)
      replace HY := Lib.hid (HY.out.keep hb)
      replace HP := Lib.hid (HP.out.keep hb)
      replace HQ := Lib.hid (HQ.out.keep hb)
      replace HK := Lib.hid (HK.out.keep hb)
      replace HB := bel_tr HB hb
      clear hb
      go_wp2_with fail
      go_ret
      exact ⟨rfl, HB.out⟩
  · rw [show decide (xs.length ≤ 40 ∧ ys.length ≤ 40) = false by simpa using h1] at HLi
    clear h1
    go_enter Try.func3, Try.ntmps3
    go_wp2_with fail
    generalize (w.alloc (cbox (.slice a xs.length n) (.slice b ys.length m))).alloc (cbox (.slice p us.length j) (.slice q vs.length k)) = w1 at *
    refine (HLi.out _).mono ?_
    rintro e w2 ⟨rfl, hb⟩
    replace HX := Lib.hid (HX.out.keep hb)
    replace HY := Lib.hid (HY.out.keep hb)
    replace HP := Lib.hid (HP.out.keep hb)
    replace HQ := Lib.hid (HQ.out.keep hb)
    replace HK := Lib.hid (HK.out.keep hb)
    replace HB := bel_tr HB hb
    clear hb
    clear k0 k1
    have k0 := HK.out.1.1
    have k1 := HK.out.1.2
    have k2 := HK.out.2.1
    have k3 := HK.out.2.2
    go_wp2_with fail
    refine (HKn.out _).mono ?_
    rintro e w3 ⟨rfl, hb⟩
    replace HX := Lib.hid (HX.out.keep hb)
    replace HY := Lib.hid (HY.out.keep hb)
    replace HP := Lib.hid (HP.out.keep hb)
    replace HQ := Lib.hid (HQ.out.keep hb)
    replace HK := Lib.hid (HK.out.keep hb)
    replace HB := bel_tr HB hb
    clear hb
    go_wp2_with fail
    go_ret
    exact ⟨rfl, HB.out⟩
end Go.Proofs.Ytefnoajkdhgonaa.F
