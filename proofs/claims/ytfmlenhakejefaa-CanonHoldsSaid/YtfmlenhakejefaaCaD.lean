/-
  Layer 17: contexts: IsCompact of the program; sameDots, Last, SameContext, Compact of the reference.
-/
import Derived.Test.YtfmlenhakejefaaMEOf
import Derived.Test.YtfmlenhakejefaaMJnC
namespace Go.Proofs.Ytfmlenhakejefaa.F
set_option linter.unusedVariables false
open Go.RowKit V Go.Sort D
open E (Cm upd Vd getV vd_cons get_none get_ge hasV SV)

theorem load_ctx {w : World} {g : Nat} {x y : Value} (h : Bc w g x y) : (Instr.loadAt 43 (.pointer (some ⟨g, 0, none⟩))).run Try.prog w = .ok (cv x y) w := by
  have h0 := h.1
  have h1 := h.2
  go_simp
/-- A box of two slices, as a class of worlds. -/
def Sb (g : Nat) (x y : Value) (w : World) : Prop := Bc w g x y
theorem Sb.l {g : Nat} {x y : Value} : ∀ w, Sb g x y w → (Instr.loadAt 43 (.pointer (some ⟨g, 0, none⟩))).run Try.prog w = .ok (cv x y) w := fun w h => load_ctx h
theorem load_v {w : World} {g i : Nat} {z : Value} (h : w.cell? ⟨g, i, none⟩ = some z) : (Instr.loadAt 41 (.pointer (some ⟨g, i, none⟩))).run Try.prog w = .ok z w := by
  go_simp
theorem load_d {w : World} {g i : Nat} {z : Value} (h : w.cell? ⟨g, i, none⟩ = some z) : (Instr.loadAt 40 (.pointer (some ⟨g, i, none⟩))).run Try.prog w = .ok z w := by
  go_simp
theorem Sb.l0 {g : Nat} {x y : Value} : ∀ w, Sb g x y w → (Instr.loadAt 41 (.pointer (some ⟨g, 0, none⟩))).run Try.prog w = .ok x w := fun w h => load_v h.1
theorem Sb.l1 {g : Nat} {x y : Value} : ∀ w, Sb g x y w → (Instr.loadAt 40 (.pointer (some ⟨g, 1, none⟩))).run Try.prog w = .ok y w := fun w h => load_d h.2
theorem Sb.keep {g : Nat} {x y : Value} {w w' : World} (h : Sb g x y w) (hb : Below w.heap.size w w') : Sb g x y w' := Bc.keep h hb
theorem ask_near {w : World} {g B : Nat} {f : Nat → Int} {xs ys : List Dt} (hv : Vc (xs, ys)) (hf : ∀ i : Nat, f i = getV xs i) (hC : Cm w g f) (hb : w.cell? ⟨B, 0, none⟩ = some (.pointer (some ⟨g, 0, none⟩))) :
    Ask w 59 #[.pointer (some ⟨B, 0, none⟩)] ys (fun d => decide (d.2 ≤ getV xs d.1 + 1)) := fun W hW d hd => by
  have hd2 := valid_iff.1 (hv.2.2 d hd)
  have e : f d.1.toNat = getV xs d.1 := by rw [hf, Int.toNat_of_nonneg (by omega)]
  exact near_any d f (getV xs d.1) g B W e ⟨by omega, hd2.2.1⟩ ⟨get_ge hv.1 _, get_le hv.1 _⟩ (hC.keep hW) ((hW.cell (p := ⟨B, 0, none⟩) (lt_of_cell hb)).trans hb)
set_option maxRecDepth 100000 in
set_option maxHeartbeats 1000000 in
theorem isCompact_any (xs ys : List Dt) (a b : Option Addr) (n m : Nat) (w : World) (hx : RowD w a xs) (hy : RowD w b ys) (hlx : xs.length ≤ 1000000) (hly : ys.length ≤ 1000000) :
    Calls Try.prog 36 #[cv (.slice a xs.length n) (.slice b ys.length m)] w fun e w' => e = .returned (.bool (isCompR (xs, ys))) ∧ Below w.heap.size w w' := by
  have H1 := Lib.hid (fun w h1 h2 => valid_any xs ys a b n m w h1 h2 hlx hly)
  have H2 := Lib.hid (fun w hv h => countersOf_any xs a n w hv h hlx)
  have H3 := Lib.hid (fun w g B f hv hf hC hb h => containsF ys b m 59 #[.pointer (some ⟨B, 0, none⟩)] (fun d => decide (d.2 ≤ getV xs d.1 + 1)) w enters_near (ask_near (xs := xs) hv (f := f) (g := g) hf hC hb) h hly)
  have HVc : Hid (validC (xs, ys) = true → Vc (xs, ys)) := fun h => (valid_vc _).1 h
  have HN : Hid (validC (xs, ys) = false → isCompR (xs, ys) = false) := fun h => comp_inv h
  have HYs : Hid (validC (xs, ys) = true → isCompR (xs, ys) = !(ys.any fun d => decide (d.2 ≤ getV xs d.1 + 1))) := fun h => comp_prog h
  have HT := Lib.hid (show Sb w.heap.size (.slice a xs.length n) (.slice b ys.length m) _ from two_new w (.slice a xs.length n) (.slice b ys.length m))
  have HB := Lib.hid (bel_box w (cbox (.slice a xs.length n) (.slice b ys.length m)))
  have HX := Lib.hid (hx.keep HB.out)
  have HYr := Lib.hid (hy.keep HB.out)
  clear hx hy hlx hly
  generalize isCompR (xs, ys) = R at *
  generalize validC (xs, ys) = vb at *
  generalize ys.any (fun d => decide (d.2 ≤ getV xs d.1 + 1)) = q at *
  go_enter Try.func36, Try.ntmps36
  go_wp2_with fail
  generalize w.alloc (cbox (.slice a xs.length n) (.slice b ys.length m)) = w1 at *
  refine Sch.wp_region_tree (Sb w.heap.size (.slice a xs.length n) (.slice b ys.length m)) (.take 0 (.one 1 (.take 2 (.take 3 (.take 4 (.take 5 (.take 6 (.one 7 (.one 8 (.one 9 (.take 10 (.take 11 (.take 12 .done))))))))))))) (by kernel_rfl) (by kernel_rfl) (HT.out.keep ((Below.refl _ _).drew)) ?_
  have hb : Below w1.heap.size w1 w1.drew := (Below.refl _ _).drew
  replace HT := Lib.hid (HT.out.keep hb)
  replace HX := Lib.hid (HX.out.keep hb)
  replace HYr := Lib.hid (HYr.out.keep hb)
  replace HB := bel_tr HB hb
  clear hb
  generalize w1.drew = w2 at *
  refine tree_load _ _ _ _ _ rfl rfl rfl rfl (by first | exact Sb.l | exact Sb.l0 | exact Sb.l1) rfl ?_
  simp only [Act.put, List.setIfInBounds_toArray, List.set_cons_zero, List.set_cons_succ]
  refine Sch.tree_e rfl rfl (fun K hK => ?_)
  go_wp2_with fail
  refine (H1.out _ HX.out HYr.out).mono ?_
  rintro e w3 ⟨rfl, hb⟩
  replace HT := Lib.hid (HT.out.keep hb)
  replace HX := Lib.hid (HX.out.keep hb)
  replace HYr := Lib.hid (HYr.out.keep hb)
  replace HB := bel_tr HB hb
  clear hb H1
  refine hK _ _ HT.out ?_
  clear hK K
  rcases Bool.eq_false_or_eq_true vb with hv | hv
  · have hR := HYs.out hv
    have HV2 := Lib.hid (HVc.out hv)
    subst hR
    subst hv
    clear HN HYs HVc
    refine Sch.tree_q rfl rfl (fun K hK => ?_)
    go_big_quiet_op
    first | refine hK _ ?_ | refine ⟨_, fun _ _ => rfl, hK _ ?_⟩
    clear hK K
    refine Sch.tree_q rfl rfl (fun K hK => ?_)
    go_big_quiet_op
    first | refine hK _ ?_ | refine ⟨_, fun _ _ => rfl, hK _ ?_⟩
    clear hK K
    refine tree_load _ _ _ _ _ rfl rfl rfl rfl (by first | exact Sb.l | exact Sb.l0 | exact Sb.l1) rfl ?_
    simp only [Act.put, List.setIfInBounds_toArray, List.set_cons_zero, List.set_cons_succ]
    refine Sch.tree_q rfl rfl (fun K hK => ?_)
    go_big_quiet_op
    first | refine hK _ ?_ | refine ⟨_, fun _ _ => rfl, hK _ ?_⟩
    clear hK K
    refine tree_load _ _ _ _ _ rfl rfl rfl rfl (by first | exact Sb.l | exact Sb.l0 | exact Sb.l1) rfl ?_
    simp only [Act.put, List.setIfInBounds_toArray, List.set_cons_zero, List.set_cons_succ]
    refine Sch.tree_e rfl rfl (fun K hK => ?_)
    go_wp2_with fail
    refine (H2.out _ HV2.out.1 HX.out).mono ?_
    rintro e w4 ⟨g, rfl, f, hcm, hf, -, hb⟩
    have HCm := Lib.hid hcm
    have HF := Lib.hid hf
    replace HT := Lib.hid (HT.out.keep hb)
    replace HYr := Lib.hid (HYr.out.keep hb)
    replace HB := bel_tr HB hb
    clear hcm hf hb H2
    refine hK _ _ HT.out ?_
    clear hK K
    refine Sch.tree_e rfl rfl (fun K hK => ?_)
    go_wp2_with fail
    refine (nearTo_any g w4).mono ?_
    rintro e w5 ⟨rfl, hnr, hb⟩
    have HNr := Lib.hid hnr
    replace HCm := Lib.hid (HCm.out.keep hb)
    replace HT := Lib.hid (HT.out.keep hb)
    replace HYr := Lib.hid (HYr.out.keep hb)
    replace HB := bel_tr HB hb
    clear hnr hb
    refine hK _ _ HT.out ?_
    clear hK K
    refine Sch.tree_e rfl rfl (fun K hK => ?_)
    go_wp2_with fail
    refine (H3.out _ g w4.heap.size f HV2.out HF.out HCm.out HNr.out HYr.out).mono ?_
    rintro e w6 ⟨rfl, hb⟩
    replace HT := Lib.hid (HT.out.keep hb)
    replace HB := bel_tr HB hb
    clear hb H3
    refine hK _ _ HT.out ?_
    clear hK K
    refine Sch.tree_q rfl rfl (fun K hK => ?_)
    go_big_quiet_op
    first | refine hK _ ?_ | refine ⟨_, fun _ _ => rfl, hK _ ?_⟩
    clear hK K
    refine Sch.tree_q rfl rfl (fun K hK => ?_)
    go_big_quiet_op
    first | refine hK _ ?_ | refine ⟨_, fun _ _ => rfl, hK _ ?_⟩
    clear hK K
    refine Sch.tree_q rfl rfl (fun K hK => ?_)
    go_big_quiet_op
    first | refine hK _ ?_ | refine ⟨_, fun _ _ => rfl, hK _ ?_⟩
    clear hK K
    refine Sch.tree_n ?_
    go_wp2_with fail
    go_ret
    exact ⟨rfl, HB.out⟩
  · have hR := HN.out hv
    have hwv : (some vb == some true) = false := by rw [hv]; rfl
    subst hR
    clear HN HYs HVc H2 H3
    refine Sch.tree_q rfl rfl (fun K hK => ?_)
    go_big_quiet_op
    first | refine hK _ ?_ | refine ⟨_, fun _ _ => rfl, hK _ ?_⟩
    clear hK K
    refine Sch.tree_s _ rfl hwv rfl ?_
    simp only [Act.put, List.setIfInBounds_toArray, List.set_cons_zero, List.set_cons_succ]
    refine Sch.tree_s _ rfl hwv rfl ?_
    simp only [Act.put, List.setIfInBounds_toArray, List.set_cons_zero, List.set_cons_succ]
    refine Sch.tree_s _ rfl hwv rfl ?_
    simp only [Act.put, List.setIfInBounds_toArray, List.set_cons_zero, List.set_cons_succ]
    refine Sch.tree_s _ rfl hwv rfl ?_
    simp only [Act.put, List.setIfInBounds_toArray, List.set_cons_zero, List.set_cons_succ]
    refine Sch.tree_se _ rfl hwv rfl ?_
    simp only [Act.put, List.setIfInBounds_toArray, List.set_cons_zero, List.set_cons_succ]
    refine Sch.tree_se _ rfl hwv rfl ?_
    simp only [Act.put, List.setIfInBounds_toArray, List.set_cons_zero, List.set_cons_succ]
    refine Sch.tree_se _ rfl hwv rfl ?_
    simp only [Act.put, List.setIfInBounds_toArray, List.set_cons_zero, List.set_cons_succ]
    refine Sch.tree_s _ rfl hwv rfl ?_
    simp only [Act.put, List.setIfInBounds_toArray, List.set_cons_zero, List.set_cons_succ]
    subst hv
    refine Sch.tree_q rfl rfl (fun K hK => ?_)
    go_big_quiet_op
    first | refine hK _ ?_ | refine ⟨_, fun _ _ => rfl, hK _ ?_⟩
    clear hK K
    refine Sch.tree_q rfl rfl (fun K hK => ?_)
    go_big_quiet_op
    first | refine hK _ ?_ | refine ⟨_, fun _ _ => rfl, hK _ ?_⟩
    clear hK K
    refine Sch.tree_n ?_
    go_wp2_with fail
    go_ret
    exact ⟨rfl, HB.out⟩
end Go.Proofs.Ytfmlenhakejefaa.F
namespace Go.Proofs.Ytfmlenhakejefaa.Dg
set_option linter.unusedVariables false
open Go.RowKit V Go.Sort D Nd Qs Jn
open E (SV getV get_here get_away lays_refl)
open F (Ct cv cbox Bc two_new)
attribute [local irreducible] Sch.heldN Sch.stepV Sch.stepE

theorem comp_vcC {c : F.Ct} (h : F.isCompR c = true) : F.Vc c := (F.comp_iff.1 h).1
/-- Two slices that hold a context. -/
def Kx (w : World) (x y : Value) (c : Ct) : Prop := SV w x c.1 ∧ SV w y c.2
theorem Kx.keep {w w' : World} {x y : Value} {c : Ct} (h : Kx w x y c) (hb : Below w.heap.size w w') : Kx w' x y c := ⟨SV.keep h.1 hb, SV.keep h.2 hb⟩
theorem Kx.nil (w : World) : Kx w (.slice none 0 0) (.slice none 0 0) ([], []) := ⟨SV.nil w, SV.nil w⟩
theorem Kx.sh {w : World} {x y : Value} {c : Ct} (h : Kx w x y c) : ∃ a n b m, x = .slice a c.1.length n ∧ y = .slice b c.2.length m := by
  obtain ⟨⟨a, n, e, -⟩, b, m, f, -⟩ := h
  exact ⟨a, n, b, m, e, f⟩
/-- A context of few dots. -/
def KL (N : Nat) (c : Ct) : Prop := c.1.length ≤ N ∧ c.2.length ≤ N
theorem KL.mono {N M : Nat} {c : Ct} (h : KL N c) (hm : N ≤ M) : KL M c := ⟨Nat.le_trans h.1 hm, Nat.le_trans h.2 hm⟩
theorem compact_kx (A : Ct) (x y : Value) (w : World) (h : Kx w x y A) (hl : KL 1000000 A) :
    Calls Try.prog 36 #[cv x y] w fun e w' => e = .returned (.bool (F.isCompR A)) ∧ Below w.heap.size w w' := by
  obtain ⟨⟨a, n, rfl, ha, ha2, -⟩, b, m, rfl, hb, hb2, -⟩ := h
  exact F.isCompact_any A.1 A.2 a b n m w ha hb hl.1 hl.2
set_option maxRecDepth 100000 in
set_option maxHeartbeats 1000000 in
theorem sameD_ref (xs ys : List Dt) (a b : Option Addr) (c d : Nat) (w : World) (hx : RowD w a xs) (hy : RowD w b ys) (hlx : xs.length ≤ 140737488355328) (hly : ys.length ≤ 140737488355328) :
    Calls Try.prog 39 #[.slice a xs.length c, .slice b ys.length d] w fun e w' => e = .returned (.bool (decide (xs = ys))) ∧ Below w.heap.size w w' := by
  have HX := Lib.hid hx
  have HY := Lib.hid hy
  have hli : (xs.length : Int) ≤ 140737488355328 := by omega
  clear hx hy hlx hly
  by_cases hl : xs.length = ys.length
  · have q0 : ((xs.length : Int) != (ys.length : Int)) = false := by rw [bne_eq_false_iff_eq]; omega
    go_enter Try.func39, Try.ntmps39
    go_wp2_with fail
    go_loopw [5] (fun i wr => ∃ k : Nat, k ≤ xs.length ∧ i = .int .i64 k ∧ Hid (Below w.heap.size w wr) ∧ Hid (∀ j (hj : j < xs.length) (hj2 : j < ys.length), j < k → xs[j] = ys[j])) (fun i _ => xs.length - (intOf i).toNat)
    case atStart => exact ⟨0, Nat.zero_le _, rfl, Below.refl _ _, fun j _ _ h => by omega⟩
    case round =>
      obtain ⟨k, hk, rfl, hh, HV⟩ := hrel
      by_cases hlt : k < xs.length
      · have hlt2 : k < ys.length := by omega
        obtain ⟨b1, o1, rfl, p0, p1⟩ := HX.out.get hh.out k hlt
        obtain ⟨b2, o2, rfl, q1, q2⟩ := HY.out.get hh.out k hlt2
        obtain ⟨p, hp⟩ : ∃ p, p = xs[k] := ⟨_, rfl⟩
        obtain ⟨q, hq⟩ : ∃ q, q = ys[k] := ⟨_, rfl⟩
        rw [← hp] at p0 p1
        rw [← hq] at q1 q2
        have HP := Lib.hid hp
        have HQ := Lib.hid hq
        clear hp hq
        by_cases hpq : p = q
        · subst hpq
          go_wp2_with fail
          go_quiet (fail)
          go_wp2_with fail
          go_roundw
          case rel =>
            refine ⟨k + 1, by omega, by go_num, bel_drewN hh.out _, fun j hj hj2 hjk => ?_⟩
            by_cases hjk2 : j = k
            · subst hjk2; rw [← HP.out, ← HQ.out]
            · exact HV.out j hj hj2 (by omega)
          case measure => simp [intOf]; omega
        · have hne := neq_yes hpq
          have HN : Hid (decide (xs = ys) = false) := by
            show _ = _
            rw [decide_eq_false_iff_not]
            rintro rfl
            exact hpq (by rw [HP.out, HQ.out])
          clear hpq
          go_wp2_with fail
          go_quiet (fail)
          go_wp2_with fail
          go_ret
          exact ⟨by rw [HN.out]; rfl, bel_drewN hh.out _⟩
      · obtain rfl : k = xs.length := by omega
        have HN : Hid (decide (xs = ys) = true) := by
          show _ = _
          rw [decide_eq_true_eq]
          exact List.ext_getElem hl fun j hj hj2 => HV.out j hj hj2 hj
        have hend : ¬ (xs.length : Int) < (xs.length : Int) := by omega
        go_wp2_with fail
        go_ret
        exact ⟨by rw [HN.out]; rfl, hh.out⟩
  · have q0 : ((xs.length : Int) != (ys.length : Int)) = true := by rw [bne_iff_ne]; omega
    have HN : Hid (decide (xs = ys) = false) := by
      show _ = _
      rw [decide_eq_false_iff_not]
      rintro rfl
      exact hl rfl
    go_enter Try.func39, Try.ntmps39
    go_wp2_with fail
    go_ret
    exact ⟨by rw [HN.out]; rfl, Below.refl _ _⟩
set_option maxRecDepth 100000 in
set_option maxHeartbeats 1000000 in
theorem last_ref (v : List Dt) (r : Int) (a : Option Addr) (c : Nat) (w : World) (hx : RowD w a v) (hlx : v.length ≤ 140737488355328) :
    Calls Try.prog 34 #[.slice a v.length c, .int .i64 r] w fun e w' => e = .returned (.int .i64 (getV v r)) ∧ Lays w w' := by
  have HX := Lib.hid hx
  have hli : (v.length : Int) ≤ 140737488355328 := by omega
  clear hx hlx
  go_enter Try.func34, Try.ntmps34
  go_wp2_with fail
  go_loopw [5] (fun i wr => ∃ k : Nat, k ≤ v.length ∧ i = .int .i64 k ∧ Hid (Lays w wr) ∧ Hid (∀ j (hj : j < v.length), j < k → v[j].1 ≠ r)) (fun i _ => v.length - (intOf i).toNat)
  case atStart => exact ⟨0, Nat.zero_le _, rfl, lays_refl _, fun j _ h => by omega⟩
  case round =>
    obtain ⟨k, hk, rfl, hh, HV⟩ := hrel
    by_cases hlt : k < v.length
    · obtain ⟨b1, o1, rfl, p0, p1⟩ := HX.out.get hh.out.bel k hlt
      obtain ⟨p, hp⟩ : ∃ p, p = v[k] := ⟨_, rfl⟩
      rw [← hp] at p0 p1
      have HP := Lib.hid hp
      clear hp
      by_cases hpq : p.1 = r
      · have HN : Hid (getV v r = p.2) := by
          show _ = _
          rw [HP.out]
          exact get_here hlt HV.out (by rw [← HP.out]; exact hpq)
        obtain ⟨p1', p2'⟩ := p
        simp only at hpq p0 p1
        subst hpq
        go_wp2_with fail
        go_ret
        exact ⟨by rw [HN.out]; rfl, hh.out⟩
      · have hne : (p.1 == r) = false := by rw [beq_eq_false_iff_ne]; exact hpq
        go_wp2_with fail
        go_roundw
        case rel =>
          refine ⟨k + 1, by omega, by go_num, hh, fun j hj hjk => ?_⟩
          by_cases hjk2 : j = k
          · subst hjk2; rw [← HP.out]; exact hpq
          · exact HV.out j hj (by omega)
        case measure => simp [intOf]; omega
    · have HN : Hid (getV v r = 0) := get_away fun j hj => HV.out j hj (by omega)
      have hend : ¬ (k : Int) < (v.length : Int) := by omega
      go_wp2_with fail
      go_ret
      exact ⟨by rw [HN.out]; rfl, hh.out⟩
set_option maxRecDepth 100000 in
set_option maxHeartbeats 1000000 in
theorem sameC_ref (xs ys us vs : List Dt) (a b p q : Option Addr) (n m j k : Nat) (w : World) (hx : RowD w a xs) (hy : RowD w b ys) (hu : RowD w p us) (hv : RowD w q vs) (hlx : xs.length ≤ 1000000) (hly : ys.length ≤ 1000000) (hlu : us.length ≤ 1000000) (hlv : vs.length ≤ 1000000) :
    Calls Try.prog 26 #[cv (.slice a xs.length n) (.slice b ys.length m), cv (.slice p us.length j) (.slice q vs.length k)] w fun e w' => e = .returned (.bool (decide ((xs, ys) = (us, vs)))) ∧ Below w.heap.size w w' := by
  have H1 := Lib.hid (fun w h1 h2 => sameD_ref xs us a p n j w h1 h2 (by omega) (by omega))
  have H2 := Lib.hid (fun w h1 h2 => sameD_ref ys vs b q m k w h1 h2 (by omega) (by omega))
  have HE : Hid (decide ((xs, ys) = (us, vs)) = (decide (xs = us) && decide (ys = vs))) := by
    show _ = _
    rw [Bool.eq_iff_iff]
    simp
  have HB := Lib.hid (bel_box w (cbox (.slice a xs.length n) (.slice b ys.length m)))
  have HT := Lib.hid (two_new w (.slice a xs.length n) (.slice b ys.length m))
  have HX := Lib.hid (hx.keep HB.out)
  have HY := Lib.hid (hy.keep HB.out)
  have HU := Lib.hid (hu.keep HB.out)
  have HV := Lib.hid (hv.keep HB.out)
  clear hx hy hu hv hlx hly hlu hlv
  generalize decide ((xs, ys) = (us, vs)) = R at *
  generalize decide (xs = us) = e1 at *
  generalize decide (ys = vs) = e2 at *
  go_enter Try.func26, Try.ntmps26
  go_wp2_with fail
  have hsz : (w.alloc (cbox (.slice a xs.length n) (.slice b ys.length m))).heap.size = w.heap.size + 1 := by simp
  generalize w.alloc (cbox (.slice a xs.length n) (.slice b ys.length m)) = w1 at *
  have hb := bel_box w1 (cbox (.slice p us.length j) (.slice q vs.length k))
  have HS := Lib.hid (two_new w1 (.slice p us.length j) (.slice q vs.length k))
  rw [hsz] at HS
  replace HT := Lib.hid (HT.out.keep hb)
  replace HX := Lib.hid (HX.out.keep hb)
  replace HY := Lib.hid (HY.out.keep hb)
  replace HU := Lib.hid (HU.out.keep hb)
  replace HV := Lib.hid (HV.out.keep hb)
  replace HB := bel_tr HB hb
  clear hb hsz
  generalize w1.alloc (cbox (.slice p us.length j) (.slice q vs.length k)) = w2 at *
  have k0 := HT.out.1
  have k1 := HT.out.2
  have k2 := HS.out.1
  have k3 := HS.out.2
  go_wp2_with fail
  refine (H1.out _ HX.out HU.out).mono ?_
  rintro e w3 ⟨rfl, hb⟩
  replace HT := Lib.hid (HT.out.keep hb)
  replace HS := Lib.hid (HS.out.keep hb)
  replace HY := Lib.hid (HY.out.keep hb)
  replace HV := Lib.hid (HV.out.keep hb)
  replace HB := bel_tr HB hb
  clear hb H1 k0 k1 k2 k3
  have k1 := HT.out.2
  have k3 := HS.out.2
  rcases e1 with _ | _
  · have hE := HE.out
    subst hE
    clear HE
    go_wp2_with fail
    go_ret
    exact ⟨rfl, HB.out⟩
  · go_wp2_with fail
    refine (H2.out _ HY.out HV.out).mono ?_
    rintro e w4 ⟨rfl, hb⟩
    replace HB := bel_tr HB hb
    clear hb H2 k1 k3
    have hE := HE.out
    subst hE
    clear HE
    go_wp2_with fail
    go_ret
    exact ⟨by simp, HB.out⟩
theorem sameC_kx (A B : Ct) (x y u v : Value) (w : World) (h : Kx w x y A) (h2 : Kx w u v B) (hl : KL 1000000 A) (hl2 : KL 1000000 B) :
    Calls Try.prog 26 #[cv x y, cv u v] w fun e w' => e = .returned (.bool (decide (A = B))) ∧ Below w.heap.size w w' := by
  obtain ⟨⟨a, n, rfl, ha, -, -⟩, b, m, rfl, hb, -, -⟩ := h
  obtain ⟨⟨p, j, rfl, hp, -, -⟩, q, k, rfl, hq, -, -⟩ := h2
  exact sameC_ref A.1 A.2 B.1 B.2 a b p q n m j k w ha hb hp hq hl.1 hl.2 hl2.1 hl2.2
theorem load_vec {w : World} {g o : Nat} {x : Value} (h : w.cell? ⟨g, o, none⟩ = some x) : (Instr.loadAt 41 (.pointer (some ⟨g, o, none⟩))).run Try.prog w = .ok x w := by go_simp
theorem load_dts {w : World} {g o : Nat} {x : Value} (h : w.cell? ⟨g, o, none⟩ = some x) : (Instr.loadAt 40 (.pointer (some ⟨g, o, none⟩))).run Try.prog w = .ok x w := by go_simp
/-- A dot of a row. -/
def Sd (b o : Nat) (d : Dt) (w : World) : Prop := w.cell? ⟨b, o, none⟩ = some (.int .i64 d.1) ∧ w.cell? ⟨b, o + 1, none⟩ = some (.int .i64 d.2)
theorem Sd.keep {b o : Nat} {d : Dt} {w w' : World} (h : Sd b o d w) (hb : Below w.heap.size w w') : Sd b o d w' :=
  ⟨(hb.cell (p := ⟨_, _, none⟩) (lt_of_cell h.1)).trans h.1, (hb.cell (p := ⟨_, _, none⟩) (lt_of_cell h.2)).trans h.2⟩
theorem sd_at {w : World} {b o : Nat} {l : List Dt} (h : RowD w (some ⟨b, o, none⟩) l) (k : Nat) (hk : k < l.length) : Sd b (o + k * 2) l[k] w := by
  obtain ⟨b', o', e, h0, h1⟩ := h.get (Below.refl _ _) k hk
  cases e
  exact ⟨h0, h1⟩
theorem Sd.l {b o : Nat} {d : Dt} : ∀ w, Sd b o d w → (Instr.loadAt 36 (.pointer (some ⟨b, o, none⟩))).run Try.prog w = .ok (dv d) w := fun w h => load_dot h.1 h.2
theorem wrap_mid {z : Int} (h1 : 0 ≤ z) (h2 : z ≤ 1000000000000) : IntKind.i64.wrap z = z := by simp [IntKind.wrap, IntKind.bits, IntKind.signed]; omega
theorem getV_top {v : List Dt} (hv : E.Vd v) (r : Int) : E.getV v r ≤ 4294967295 := by
  by_cases h : 0 < E.getV v r
  · have := valid_iff.1 (hv.1 _ (E.get_pos hv h))
    exact this.2.2.2
  · omega
theorem dot_new (w : World) (d : Dt) : (w.alloc (.cells #[.int .i64 d.1, .int .i64 d.2] 36)).cell? ⟨w.heap.size, 0, none⟩ = some (.int .i64 d.1) ∧ (w.alloc (.cells #[.int .i64 d.1, .int .i64 d.2] 36)).cell? ⟨w.heap.size, 1, none⟩ = some (.int .i64 d.2) := by
  constructor <;> go_simp
theorem bel_dr {w w' : World} (h : Hid (Below w.heap.size w w')) (n : Nat) : Hid (Below w.heap.size w (w'.drewN n)) := bel_drewN h.out n
theorem pw_adj {α : Type} {R : α → α → Prop} (ht : ∀ a b c, R a b → R b c → R a c) {l : List α} (h : ∀ j (hj : j + 1 < l.length), R l[j] l[j + 1]) : l.Pairwise R := by
  rw [List.pairwise_iff_getElem]
  have : ∀ n i (hi : i + 1 + n < l.length), R l[i] (l[i + 1 + n]) := by
    intro n
    induction n with
    | zero => exact fun i hi => h i hi
    | succ n ih => exact fun i hi => ht _ _ _ (ih i (by omega)) (h (i + 1 + n) hi)
  intro i j hi hj hij
  have := this (j - i - 1) i (by omega)
  have e : i + 1 + (j - i - 1) = j := by omega
  simpa only [e] using this
theorem comp_no1 {c : Ct} {k : Nat} (hk : k < c.1.length) (h : validR c.1[k] = false) : F.isCompR c = false := by
  rw [← Bool.not_eq_true]
  intro hc
  have := (F.comp_iff.1 hc).1.1.1 _ (List.getElem_mem hk)
  rw [h] at this
  cases this
theorem comp_no2 {c : Ct} {k : Nat} (hk : k + 1 < c.1.length) (h : ¬ (c.1[k]'(by omega)).1 < c.1[k + 1].1) : F.isCompR c = false := by
  rw [← Bool.not_eq_true]
  intro hc
  have h2 : E.Inc c.1 := (F.comp_iff.1 hc).1.1.2
  unfold E.Inc at h2
  rw [List.pairwise_iff_getElem] at h2
  exact h (h2 k (k + 1) (by omega) hk (by omega))
theorem comp_no3 {c : Ct} {k : Nat} (hk : k < c.2.length) (h : validR c.2[k] = false) : F.isCompR c = false := by
  rw [← Bool.not_eq_true]
  intro hc
  have := (F.comp_iff.1 hc).1.2.2 _ (List.getElem_mem hk)
  rw [h] at this
  cases this
theorem comp_no4 {c : Ct} {k : Nat} (hk : k + 1 < c.2.length) (h : less (c.2[k]'(by omega)) c.2[k + 1] = false) : F.isCompR c = false := by
  rw [← Bool.not_eq_true]
  intro hc
  have h2 : Srt c.2 := (F.comp_iff.1 hc).1.2.1
  unfold Srt at h2
  rw [List.pairwise_iff_getElem] at h2
  have := h2 k (k + 1) (by omega) hk (by omega)
  rw [h] at this
  cases this
theorem comp_no5 {c : Ct} {k : Nat} (hk : k < c.2.length) (h : c.2[k].2 ≤ getV c.1 c.2[k].1 + 1) : F.isCompR c = false := by
  rw [← Bool.not_eq_true]
  intro hc
  have := (F.comp_iff.1 hc).2 _ (List.getElem_mem hk)
  omega
theorem vd_adj {v : List Dt} (h1 : ∀ j (hj : j < v.length), validR v[j] = true) (h2 : ∀ j (hj : j + 1 < v.length), (v[j]'(by omega)).1 < v[j + 1].1) : E.Vd v := by
  refine ⟨fun x hx => ?_, pw_adj (R := fun a b : Dt => a.1 < b.1) (fun a b c h k => Int.lt_trans h k) h2⟩
  obtain ⟨j, hj, rfl⟩ := List.mem_iff_getElem.1 hx
  exact h1 j hj
theorem less_tr (a b c : Dt) (h1 : less a b = true) (h2 : less b c = true) : less a c = true := by
  rw [less_iff] at *
  omega
theorem comp_adj {c : Ct} (hv : E.Vd c.1) (h1 : ∀ j (hj : j < c.2.length), validR c.2[j] = true) (h2 : ∀ j (hj : j + 1 < c.2.length), less (c.2[j]'(by omega)) c.2[j + 1] = true) (h3 : ∀ j (hj : j < c.2.length), getV c.1 c.2[j].1 + 1 < c.2[j].2) : F.isCompR c = true := by
  rw [F.comp_iff]
  refine ⟨⟨hv, pw_adj less_tr h2, fun x hx => ?_⟩, fun x hx => ?_⟩
  · obtain ⟨j, hj, rfl⟩ := List.mem_iff_getElem.1 hx
    exact h1 j hj
  · obtain ⟨j, hj, rfl⟩ := List.mem_iff_getElem.1 hx
    exact h3 j hj
theorem ix_vec (b o n c k : Nat) (z : Int) (hz : z = (k : Int)) (hk : k < n) : ∀ w, (Instr.indexAt 41 (.slice (some ⟨b, o, none⟩) n c) (.int .i64 z)).run Try.prog w = .ok (.pointer (some ⟨b, o + k * 2, none⟩)) w := by
  intro w
  subst hz
  have hk2 : (k : Int) < (n : Int) := by omega
  go_simp
/-- A context's box, and two dots of a row. -/
def Cw (g : Nat) (x y : Value) (b o o2 : Nat) (q p : Dt) (w : World) : Prop := Bc w g x y ∧ Sd b o q w ∧ Sd b o2 p w
section
variable {g b o o2 : Nat} {x y : Value} {q p : Dt}
theorem Cw.keep {w w' : World} (h : Cw g x y b o o2 q p w) (hb : Below w.heap.size w w') : Cw g x y b o o2 q p w' := ⟨h.1.keep hb, h.2.1.keep hb, h.2.2.keep hb⟩
theorem Cw.v : ∀ w, Cw g x y b o o2 q p w → (Instr.loadAt 41 (.pointer (some ⟨g, 0, none⟩))).run Try.prog w = .ok x w := fun w h => load_vec h.1.1
theorem Cw.s : ∀ w, Cw g x y b o o2 q p w → (Instr.loadAt 40 (.pointer (some ⟨g, 1, none⟩))).run Try.prog w = .ok y w := fun w h => load_dts h.1.2
theorem Cw.d : ∀ w, Cw g x y b o o2 q p w → (Instr.loadAt 36 (.pointer (some ⟨b, o, none⟩))).run Try.prog w = .ok (dv q) w := fun w h => h.2.1.l w
theorem Cw.d2 : ∀ w, Cw g x y b o o2 q p w → (Instr.loadAt 36 (.pointer (some ⟨b, o2, none⟩))).run Try.prog w = .ok (dv p) w := fun w h => h.2.2.l w
theorem Cw.l0 : ∀ w, Cw g x y b o o2 q p w → (Instr.loadAt 3 (.pointer (some ⟨b, o, none⟩))).run Try.prog w = .ok (.int .i64 q.1) w := fun w h => load_int h.2.1.1
theorem Cw.p0 : ∀ w, Cw g x y b o o2 q p w → (Instr.loadAt 3 (.pointer (some ⟨b, o2, none⟩))).run Try.prog w = .ok (.int .i64 p.1) w := fun w h => load_int h.2.2.1
end
/-- The same, and a dot's box. -/
def Cv (g : Nat) (x y : Value) (b o o2 : Nat) (q p : Dt) (g2 : Nat) (w : World) : Prop := Cw g x y b o o2 q p w ∧ Sd g2 0 q w
section
variable {g b o o2 g2 : Nat} {x y : Value} {q p : Dt}
theorem Cv.keep {w w' : World} (h : Cv g x y b o o2 q p g2 w) (hb : Below w.heap.size w w') : Cv g x y b o o2 q p g2 w' := ⟨h.1.keep hb, h.2.keep hb⟩
theorem Cv.v : ∀ w, Cv g x y b o o2 q p g2 w → (Instr.loadAt 41 (.pointer (some ⟨g, 0, none⟩))).run Try.prog w = .ok x w := fun w h => load_vec h.1.1.1
theorem Cv.s : ∀ w, Cv g x y b o o2 q p g2 w → (Instr.loadAt 40 (.pointer (some ⟨g, 1, none⟩))).run Try.prog w = .ok y w := fun w h => load_dts h.1.1.2
theorem Cv.d2 : ∀ w, Cv g x y b o o2 q p g2 w → (Instr.loadAt 36 (.pointer (some ⟨b, o2, none⟩))).run Try.prog w = .ok (dv p) w := fun w h => h.1.2.2.l w
theorem Cv.bx : ∀ w, Cv g x y b o o2 q p g2 w → (Instr.loadAt 36 (.pointer (some ⟨g2, 0, none⟩))).run Try.prog w = .ok (dv q) w := fun w h => h.2.l w
theorem Cv.b0 : ∀ w, Cv g x y b o o2 q p g2 w → (Instr.loadAt 3 (.pointer (some ⟨g2, 0, none⟩))).run Try.prog w = .ok (.int .i64 q.1) w := fun w h => load_int h.2.1
theorem Cv.b1 : ∀ w, Cv g x y b o o2 q p g2 w → (Instr.loadAt 3 (.pointer (some ⟨g2, 1, none⟩))).run Try.prog w = .ok (.int .i64 q.2) w := fun w h => load_int h.2.2
end
theorem sd_row {w w' : World} {b o : Nat} {l : List Dt} (h : RowD w (some ⟨b, o, none⟩) l) (hb : Below w.heap.size w w') (k : Nat) (hk : k < l.length) : Sd b (o + k * 2) l[k] w' := (sd_at h k hk).keep hb
set_option maxRecDepth 100000 in
set_option maxHeartbeats 8000000 in
theorem compR_ref (v ys : List Dt) (x y : Value) (w : World) (h : Kx w x y (v, ys)) (hl : KL 1000000 (v, ys)) :
    Calls Try.prog 18 #[cv x y] w fun e w' => e = .returned (.bool (F.isCompR (v, ys))) ∧ Below w.heap.size w w' := by
  obtain ⟨⟨a1, n1, rfl, hr1, -⟩, a2, n2, rfl, hr2, -⟩ := h
  simp only at hr1 hr2 ⊢
  have HNo1 := Lib.hid (fun k (hk : k < v.length) h => comp_no1 (c := (v, ys)) (k := k) hk h)
  have HNo2 := Lib.hid (fun k (hk : k + 1 < v.length) h => comp_no2 (c := (v, ys)) (k := k) hk h)
  have HNo3 := Lib.hid (fun k (hk : k < ys.length) h => comp_no3 (c := (v, ys)) (k := k) hk h)
  have HNo4 := Lib.hid (fun k (hk : k + 1 < ys.length) h => comp_no4 (c := (v, ys)) (k := k) hk h)
  have HNo5 := Lib.hid (fun k (hk : k < ys.length) h => comp_no5 (c := (v, ys)) (k := k) hk h)
  have HYes := Lib.hid (fun h1 h2 h3 h4 => comp_adj (c := (v, ys)) h1 h2 h3 h4)
  have hli1 : (v.length : Int) ≤ 1000000 := by have := hl.1; simp only at this; omega
  have hli2 : (ys.length : Int) ≤ 1000000 := by have := hl.2; simp only at this; omega
  have HLen : Hid (v.length ≤ 1000000 ∧ ys.length ≤ 1000000) := Lib.hid hl
  have HLa := Lib.hid (fun r w h => last_ref v r a1 n1 w h (by have := hl.1; simp only at this; omega))
  have HB := Lib.hid (bel_box w (cbox (.slice a1 v.length n1) (.slice a2 ys.length n2)))
  have HT := Lib.hid (F.two_new w (.slice a1 v.length n1) (.slice a2 ys.length n2))
  have HR1 := Lib.hid (hr1.keep HB.out)
  have HR2 := Lib.hid (hr2.keep HB.out)
  clear hl hr1 hr2
  generalize F.isCompR (v, ys) = R at *
  go_enter Try.func18, Try.ntmps18
  go_upto_region 1 with fail
  generalize w.alloc (cbox (.slice a1 v.length n1) (.slice a2 ys.length n2)) = w1 at *
  obtain ⟨t0, t1⟩ := HT.out
  go_wp2_with fail
  go_loopw [3] (fun i wr => ∃ k : Nat, k ≤ v.length ∧ i = .int .i64 k ∧ Hid (Below w1.heap.size w1 wr) ∧ Hid (∀ j (hj : j < v.length), j < k → validR v[j] = true) ∧ Hid (∀ j (hj : j + 1 < v.length), j + 1 < k → (v[j]'(by omega)).1 < v[j + 1].1)) (fun i _ => v.length - (intOf i).toNat)
  case atStart => exact ⟨0, Nat.zero_le _, rfl, Below.refl _ _, fun j _ h => by omega, fun j _ h => by omega⟩
  case round =>
    obtain ⟨k, hk, rfl, hh, HV, HI⟩ := hrel
    clear t0 t1
    by_cases hlt : k < v.length
    · have hi0 : (k : Int) < (v.length : Int) := by omega
      have hg : decide ((k : Int) < (v.length : Int)) = true := by simpa using hi0
      obtain ⟨b1, o1, rfl, -⟩ := HR1.out.get (Below.refl _ _) k hlt
      have HQd := Lib.hid (sd_row HR1.out (hh.out) k hlt)
      have hix := ix_vec b1 o1 v.length n1 k (k : Int) rfl hlt
      have HG := Lib.hid (fun w => isDot_ref v[k] w)
      by_cases hk0 : k = 0
      · have hz : decide ((k : Int) > 0) = false := decide_eq_false (by omega)
        have hz2 : decide (0 < k) = false := decide_eq_false (by omega)
        have HK00 := Lib.hid hk0
        clear hk0
        obtain ⟨q, hq⟩ : ∃ q, q = v[k] := ⟨_, rfl⟩
        rw [← hq] at HQd HG
        have HQ := Lib.hid hq
        clear hq
        have HK0 : Hid (Cw w.heap.size (.slice (some ⟨b1, o1, none⟩) v.length n1) (.slice a2 ys.length n2) b1 (o1 + k * 2) (o1 + k * 2) q q wr.drew) := Lib.hid (Cw.keep ⟨HT.out.keep hh.out, HQd.out, HQd.out⟩ (Below.refl _ _).drew)
        have HBd : Hid (Below w1.heap.size w1 wr.drew) := Lib.hid hh.out.drew
        obtain ⟨t0, t1⟩ := HT.out.keep hh.out
        go_wp2_with fail
        clear t0 t1
        refine Sch.wp_region_tn (Cw w.heap.size (.slice (some ⟨b1, o1, none⟩) v.length n1) (.slice a2 ys.length n2) b1 (o1 + k * 2) (o1 + k * 2) q q) (.val 0 (.val 1 (.val 2 (.val 3 (.val 4 (.one 5 (.val 6 (.val 7 (.val 8 (.val 9 (.val 10 (.val 11 (.val 12 (.val 13 (.val 14 (.val 15 (.val 16 (.val 17 (.val 18 (.val 19 (.val 20 (.val 21 (.val 22 (.val 23 (.val 24 (.val 25 (.val 26 .done))))))))))))))))))))))))))) (by kernel_rfl) (by kernel_rfl) HK0.out ?_
        repeat (first
          | (refine Sch.tn_q rfl rfl rfl (fun K hK => ?_); go_big_quiet_op; (first | refine hK _ ?_ | refine ⟨_, fun _ _ => rfl, hK _ ?_⟩); clear hK K)
          | (refine Sch.tn_chk _ _ _ rfl rfl rfl rfl rfl ?_; simp only [Act.put, List.setIfInBounds_toArray, List.set_cons_zero, List.set_cons_succ])
          | (refine Sch.tn_load _ _ _ _ _ rfl rfl rfl rfl (by first | exact Cw.v | exact Cw.d | exact Cw.l0 | exact Cw.p0) rfl ?_; simp only [Act.put, List.setIfInBounds_toArray, List.set_cons_zero, List.set_cons_succ]))
        generalize wr.drew = w2 at *
        refine Sch.tn_e rfl rfl (fun K hK => ?_)
        go_wp2_with fail
        refine (HG.out _).mono ?_
        rintro e w3 ⟨rfl, hb⟩
        replace HK0 := Lib.hid (HK0.out.keep hb)
        replace HBd := bel_tr HBd hb
        clear hb HG
        refine hK _ _ HK0.out ?_
        clear hK K
        rcases hvq : validR q with _ | _
        · have HN : Hid (R = false) := HNo1.out k hlt (by rw [← HQ.out]; exact hvq)
          clear hvq
          repeat (first
            | (refine Sch.tn_q rfl rfl rfl (fun K hK => ?_); go_big_quiet_op; (first | refine hK _ ?_ | refine ⟨_, fun _ _ => rfl, hK _ ?_⟩); clear hK K)
            | (refine Sch.tn_chk _ _ _ rfl rfl rfl rfl rfl ?_; simp only [Act.put, List.setIfInBounds_toArray, List.set_cons_zero, List.set_cons_succ])
            | (refine Sch.tn_load _ _ _ _ _ rfl rfl rfl rfl (by first | exact Cw.v | exact Cw.d | exact Cw.l0 | exact Cw.p0) rfl ?_; simp only [Act.put, List.setIfInBounds_toArray, List.set_cons_zero, List.set_cons_succ])
            | (refine Sch.tn_s _ rfl rfl rfl ?_; simp only [Act.put, List.setIfInBounds_toArray, List.set_cons_zero, List.set_cons_succ])
            | (refine Sch.tn_se _ rfl rfl rfl ?_; simp only [Act.put, List.setIfInBounds_toArray, List.set_cons_zero, List.set_cons_succ]))
          refine Sch.tn_n ?_
          go_wp2_with fail
          go_ret
          exact ⟨by rw [HN.out]; rfl, HB.out.trans (HBd.out.mono HB.out.size)⟩
        · have HVq : Hid (validR v[k] = true) := by show _ = _; rw [← HQ.out]; exact hvq
          have HIq : Hid (∀ j (hj : j + 1 < v.length), j + 1 = k → (v[j]'(by omega)).1 < v[j + 1].1) := fun j hj e => by have := HK00.out; omega
          clear hvq
          repeat (first
            | (refine Sch.tn_q rfl rfl rfl (fun K hK => ?_); go_big_quiet_op; (first | refine hK _ ?_ | refine ⟨_, fun _ _ => rfl, hK _ ?_⟩); clear hK K)
            | (refine Sch.tn_chk _ _ _ rfl rfl rfl rfl rfl ?_; simp only [Act.put, List.setIfInBounds_toArray, List.set_cons_zero, List.set_cons_succ])
            | (refine Sch.tn_load _ _ _ _ _ rfl rfl rfl rfl (by first | exact Cw.v | exact Cw.d | exact Cw.l0 | exact Cw.p0) rfl ?_; simp only [Act.put, List.setIfInBounds_toArray, List.set_cons_zero, List.set_cons_succ])
            | (refine Sch.tn_s _ rfl rfl rfl ?_; simp only [Act.put, List.setIfInBounds_toArray, List.set_cons_zero, List.set_cons_succ])
            | (refine Sch.tn_se _ rfl rfl rfl ?_; simp only [Act.put, List.setIfInBounds_toArray, List.set_cons_zero, List.set_cons_succ]))
          refine Sch.tn_n ?_
          go_wp2_with fail
          go_roundw
          case rel => exact ⟨k + 1, by omega, by go_num, HBd, fun j hj hjk => by
            by_cases e : j = k
            · subst e; exact HVq.out
            · exact HV.out j hj (by omega), fun j hj hjk => by
            by_cases e : j + 1 = k
            · subst e; exact HIq.out j hj rfl
            · exact HI.out j hj (by omega)⟩
          case measure => simp [intOf]; omega
      · have hz : decide ((k : Int) > 0) = true := decide_eq_true (by omega)
        have hz2 : decide (0 < k) = true := decide_eq_true (by omega)
        have HK00 : Hid (k ≠ 0) := hk0
        have hwr : IntKind.i64.wrap ((k : Int) - 1) = (k : Int) - 1 := wrap_mid (by omega) (by have := HLen.out; omega)
        have hix2 := ix_vec b1 o1 v.length n1 (k - 1) ((k : Int) - 1) (by omega) (by omega)
        have HPd := Lib.hid (sd_row HR1.out (hh.out) (k - 1) (by omega))
        
        obtain ⟨q, hq⟩ : ∃ q, q = v[k] := ⟨_, rfl⟩
        obtain ⟨p, hp⟩ : ∃ p, p = v[k - 1] := ⟨_, rfl⟩
        rw [← hq] at HQd HG 
        rw [← hp] at HPd 
        have HQ := Lib.hid hq
        have HP := Lib.hid hp
        clear hq hp
        have HK0 : Hid (Cw w.heap.size (.slice (some ⟨b1, o1, none⟩) v.length n1) (.slice a2 ys.length n2) b1 (o1 + k * 2) (o1 + (k - 1) * 2) q p wr.drew) := Lib.hid (Cw.keep ⟨HT.out.keep hh.out, HQd.out, HPd.out⟩ (Below.refl _ _).drew)
        have HBd : Hid (Below w1.heap.size w1 wr.drew) := Lib.hid hh.out.drew
        obtain ⟨t0, t1⟩ := HT.out.keep hh.out
        go_wp2_with fail
        clear t0 t1
        refine Sch.wp_region_tn (Cw w.heap.size (.slice (some ⟨b1, o1, none⟩) v.length n1) (.slice a2 ys.length n2) b1 (o1 + k * 2) (o1 + (k - 1) * 2) q p) (.val 0 (.val 1 (.val 2 (.val 3 (.val 4 (.one 5 (.val 6 (.val 7 (.val 8 (.val 9 (.val 10 (.val 11 (.val 12 (.val 13 (.val 14 (.val 15 (.val 16 (.val 17 (.val 18 (.val 19 (.val 20 (.val 21 (.val 22 (.val 23 (.val 24 (.val 25 (.val 26 .done))))))))))))))))))))))))))) (by kernel_rfl) (by kernel_rfl) HK0.out ?_
        repeat (first
          | (refine Sch.tn_q rfl rfl rfl (fun K hK => ?_); go_big_quiet_op; (first | refine hK _ ?_ | refine ⟨_, fun _ _ => rfl, hK _ ?_⟩); clear hK K)
          | (refine Sch.tn_chk _ _ _ rfl rfl rfl rfl rfl ?_; simp only [Act.put, List.setIfInBounds_toArray, List.set_cons_zero, List.set_cons_succ])
          | (refine Sch.tn_load _ _ _ _ _ rfl rfl rfl rfl (by first | exact Cw.v | exact Cw.d | exact Cw.l0 | exact Cw.p0) rfl ?_; simp only [Act.put, List.setIfInBounds_toArray, List.set_cons_zero, List.set_cons_succ]))
        generalize wr.drew = w2 at *
        refine Sch.tn_e rfl rfl (fun K hK => ?_)
        go_wp2_with fail
        refine (HG.out _).mono ?_
        rintro e w3 ⟨rfl, hb⟩
        replace HK0 := Lib.hid (HK0.out.keep hb)
        replace HBd := bel_tr HBd hb
        clear hb HG
        refine hK _ _ HK0.out ?_
        clear hK K
        rcases hvq : validR q with _ | _
        · have HN : Hid (R = false) := HNo1.out k hlt (by rw [← HQ.out]; exact hvq)
          clear hvq
          repeat (first
            | (refine Sch.tn_q rfl rfl rfl (fun K hK => ?_); go_big_quiet_op; (first | refine hK _ ?_ | refine ⟨_, fun _ _ => rfl, hK _ ?_⟩); clear hK K)
            | (refine Sch.tn_chk _ _ _ rfl rfl rfl rfl rfl ?_; simp only [Act.put, List.setIfInBounds_toArray, List.set_cons_zero, List.set_cons_succ])
            | (refine Sch.tn_load _ _ _ _ _ rfl rfl rfl rfl (by first | exact Cw.v | exact Cw.d | exact Cw.l0 | exact Cw.p0) rfl ?_; simp only [Act.put, List.setIfInBounds_toArray, List.set_cons_zero, List.set_cons_succ])
            | (refine Sch.tn_s _ rfl rfl rfl ?_; simp only [Act.put, List.setIfInBounds_toArray, List.set_cons_zero, List.set_cons_succ])
            | (refine Sch.tn_se _ rfl rfl rfl ?_; simp only [Act.put, List.setIfInBounds_toArray, List.set_cons_zero, List.set_cons_succ]))
          refine Sch.tn_n ?_
          go_wp2_with fail
          go_ret
          exact ⟨by rw [HN.out]; rfl, HB.out.trans (HBd.out.mono HB.out.size)⟩
        · have HVq : Hid (validR v[k] = true) := by show _ = _; rw [← HQ.out]; exact hvq
          clear hvq
          by_cases hpq : p.1 < q.1
          · have hge : decide (p.1 ≥ q.1) = false := decide_eq_false (by omega)
            have hge2 : decide (q.1 ≤ p.1) = false := decide_eq_false (by omega)
            have HIq : Hid (∀ j (hj : j + 1 < v.length), j + 1 = k → (v[j]'(by omega)).1 < v[j + 1].1) := fun j hj e => by
              subst e
              rw [← HQ.out]
              have := HP.out
              simp only [Nat.add_sub_cancel] at this
              rw [← this]
              exact hpq
            repeat (first
              | (refine Sch.tn_q rfl rfl rfl (fun K hK => ?_); go_big_quiet_op; (first | refine hK _ ?_ | refine ⟨_, fun _ _ => rfl, hK _ ?_⟩); clear hK K)
              | (refine Sch.tn_chk _ _ _ rfl rfl rfl rfl rfl ?_; simp only [Act.put, List.setIfInBounds_toArray, List.set_cons_zero, List.set_cons_succ])
              | (refine Sch.tn_load _ _ _ _ _ rfl rfl rfl rfl (by first | exact Cw.v | exact Cw.d | exact Cw.l0 | exact Cw.p0) rfl ?_; simp only [Act.put, List.setIfInBounds_toArray, List.set_cons_zero, List.set_cons_succ])
              | (refine Sch.tn_s _ rfl rfl rfl ?_; simp only [Act.put, List.setIfInBounds_toArray, List.set_cons_zero, List.set_cons_succ])
              | (refine Sch.tn_se _ rfl rfl rfl ?_; simp only [Act.put, List.setIfInBounds_toArray, List.set_cons_zero, List.set_cons_succ]))
            refine Sch.tn_n ?_
            go_wp2_with fail
            go_roundw
            case rel => exact ⟨k + 1, by omega, by go_num, HBd, fun j hj hjk => by
              by_cases e : j = k
              · subst e; exact HVq.out
              · exact HV.out j hj (by omega), fun j hj hjk => by
              by_cases e : j + 1 = k
              · subst e; exact HIq.out j hj rfl
              · exact HI.out j hj (by omega)⟩
            case measure => simp [intOf]; omega
          · have hge : decide (p.1 ≥ q.1) = true := decide_eq_true (by omega)
            have hge2 : decide (q.1 ≤ p.1) = true := decide_eq_true (by omega)
            have HN : Hid (R = false) := HNo2.out (k - 1) (by omega) (by
              have h1 := HP.out
              have h2 := HQ.out
              have e : k - 1 + 1 = k := by omega
              simp only [e]
              rw [← h1, ← h2]
              first | exact hpq | omega)
            repeat (first
              | (refine Sch.tn_q rfl rfl rfl (fun K hK => ?_); go_big_quiet_op; (first | refine hK _ ?_ | refine ⟨_, fun _ _ => rfl, hK _ ?_⟩); clear hK K)
              | (refine Sch.tn_chk _ _ _ rfl rfl rfl rfl rfl ?_; simp only [Act.put, List.setIfInBounds_toArray, List.set_cons_zero, List.set_cons_succ])
              | (refine Sch.tn_load _ _ _ _ _ rfl rfl rfl rfl (by first | exact Cw.v | exact Cw.d | exact Cw.l0 | exact Cw.p0) rfl ?_; simp only [Act.put, List.setIfInBounds_toArray, List.set_cons_zero, List.set_cons_succ])
              | (refine Sch.tn_s _ rfl rfl rfl ?_; simp only [Act.put, List.setIfInBounds_toArray, List.set_cons_zero, List.set_cons_succ])
              | (refine Sch.tn_se _ rfl rfl rfl ?_; simp only [Act.put, List.setIfInBounds_toArray, List.set_cons_zero, List.set_cons_succ]))
            refine Sch.tn_n ?_
            go_wp2_with fail
            go_ret
            exact ⟨by rw [HN.out]; rfl, HB.out.trans (HBd.out.mono HB.out.size)⟩
    · obtain rfl : k = v.length := by omega
      have HVd := Lib.hid (vd_adj (fun j hj => HV.out j hj hj) (fun j hj => HI.out j hj hj))
      have HGw : Hid (∀ r : Int, IntKind.i64.wrap (getV v r + 1) = getV v r + 1) := fun r => wrap_mid (by have := E.get_ge HVd.out r; omega) (by have := getV_top HVd.out r; omega)
      have hend : ¬ (v.length : Int) < (v.length : Int) := by omega
      obtain ⟨t0, t1⟩ := HT.out.keep hh.out
      obtain ⟨wz, hwz⟩ : ∃ wz, wz = wr := ⟨_, rfl⟩
      rw [← hwz] at hh t0 t1 ⊢
      clear hwz HV HI HNo1 HNo2
      have hhz := hh
      clear hh
      go_wp2_with fail
      go_loopw [4, 5] (fun i _ wr => ∃ k : Nat, k ≤ ys.length ∧ i = .int .i64 k ∧ Hid (Below w1.heap.size w1 wr) ∧ Hid (∀ j (hj : j < ys.length), j < k → validR ys[j] = true ∧ getV v ys[j].1 + 1 < ys[j].2) ∧ Hid (∀ j (hj : j + 1 < ys.length), j + 1 < k → less (ys[j]'(by omega)) ys[j + 1] = true)) (fun i _ _ => ys.length - (intOf i).toNat)
      case atStart => exact ⟨0, Nat.zero_le _, rfl, hhz, fun j _ h => by omega, fun j _ h => by omega⟩
      case round =>
        obtain ⟨k, hk, rfl, hh, HV, HI⟩ := hrel
        clear t0 t1
        by_cases hlt : k < ys.length
        · have hi0 : (k : Int) < (ys.length : Int) := by omega
          have hg : decide ((k : Int) < (ys.length : Int)) = true := by simpa using hi0
          obtain ⟨b1, o1, rfl, -⟩ := HR2.out.get (Below.refl _ _) k hlt
          have HQd := Lib.hid (sd_row HR2.out (hh.out) k hlt)
          have hix := ix_dot b1 o1 ys.length n2 k (k : Int) rfl hlt
          have HG := Lib.hid (fun w => isDot_ref ys[k] w)
          by_cases hk0 : k = 0
          · have hz : decide ((k : Int) > 0) = false := decide_eq_false (by omega)
            have hz2 : decide (0 < k) = false := decide_eq_false (by omega)
            have HK00 := Lib.hid hk0
            clear hk0
            obtain ⟨q, hq⟩ : ∃ q, q = ys[k] := ⟨_, rfl⟩
            rw [← hq] at HQd HG
            have HQ := Lib.hid hq
            clear hq
            have hb0 := bel_box wr (.cells #[.int .i64 q.1, .int .i64 q.2] 36)
            have HK0 : Hid (Cv w.heap.size (.slice a1 v.length n1) (.slice (some ⟨b1, o1, none⟩) ys.length n2) b1 (o1 + k * 2) (o1 + k * 2) q q wr.heap.size (wr.alloc (.cells #[.int .i64 q.1, .int .i64 q.2] 36)).drew) := Lib.hid (Cv.keep ⟨Cw.keep ⟨HT.out.keep hh.out, HQd.out, HQd.out⟩ hb0, dot_new wr q⟩ (Below.refl _ _).drew)
            have HBd : Hid (Below w1.heap.size w1 (wr.alloc (.cells #[.int .i64 q.1, .int .i64 q.2] 36)).drew) := Lib.hid (hh.out.trans (hb0.mono hh.out.size)).drew
            clear hb0
            obtain ⟨c0, c1⟩ := HQd.out
            obtain ⟨t0, t1⟩ := (HT.out.keep hh.out)
            go_upto_region 10 with fail
            clear c0 c1 t0 t1
            generalize wr.alloc (.cells #[.int .i64 q.1, .int .i64 q.2] 36) = w1x at *
            generalize wr.heap.size = gx at *
            go_wp2_with fail
            refine Sch.wp_region_tn (Cv w.heap.size (.slice a1 v.length n1) (.slice (some ⟨b1, o1, none⟩) ys.length n2) b1 (o1 + k * 2) (o1 + k * 2) q q gx) (.val 0 (.one 1 (.val 2 (.val 3 (.val 4 (.val 5 (.val 6 (.val 7 (.val 8 (.val 9 (.val 10 (.val 11 (.val 12 (.val 13 (.one 14 (.val 15 (.val 16 (.val 17 (.val 18 (.val 19 (.val 20 (.val 21 (.val 22 (.val 23 (.val 24 (.one 25 (.val 26 (.val 27 (.val 28 .done))))))))))))))))))))))))))))) (by kernel_rfl) (by kernel_rfl) HK0.out ?_
            repeat (first
              | (refine Sch.tn_q rfl rfl rfl (fun K hK => ?_); go_big_quiet_op; (first | refine hK _ ?_ | refine ⟨_, fun _ _ => rfl, hK _ ?_⟩); clear hK K)
              | (refine Sch.tn_chk _ _ _ rfl rfl rfl rfl rfl ?_; simp only [Act.put, List.setIfInBounds_toArray, List.set_cons_zero, List.set_cons_succ])
              | (refine Sch.tn_load _ _ _ _ _ rfl rfl rfl rfl (by first | exact Cv.v | exact Cv.s | exact Cv.d2 | exact Cv.bx | exact Cv.b0 | exact Cv.b1) rfl ?_; simp only [Act.put, List.setIfInBounds_toArray, List.set_cons_zero, List.set_cons_succ]))
            generalize w1x.drew = w2 at *
            refine Sch.tn_e rfl rfl (fun K hK => ?_)
            go_wp2_with fail
            refine (HG.out _).mono ?_
            rintro e w3 ⟨rfl, hb⟩
            replace HK0 := Lib.hid (HK0.out.keep hb)
            replace HBd := bel_tr HBd hb
            clear hb HG
            refine hK _ _ HK0.out ?_
            clear hK K
            rcases hvq : validR q with _ | _
            · have HN : Hid (R = false) := HNo3.out k hlt (by rw [← HQ.out]; exact hvq)
              clear hvq
              repeat (first
                | (refine Sch.tn_q rfl rfl rfl (fun K hK => ?_); go_big_quiet_op; (first | refine hK _ ?_ | refine ⟨_, fun _ _ => rfl, hK _ ?_⟩); clear hK K)
                | (refine Sch.tn_chk _ _ _ rfl rfl rfl rfl rfl ?_; simp only [Act.put, List.setIfInBounds_toArray, List.set_cons_zero, List.set_cons_succ])
                | (refine Sch.tn_load _ _ _ _ _ rfl rfl rfl rfl (by first | exact Cv.v | exact Cv.s | exact Cv.d2 | exact Cv.bx | exact Cv.b0 | exact Cv.b1) rfl ?_; simp only [Act.put, List.setIfInBounds_toArray, List.set_cons_zero, List.set_cons_succ])
                | (refine Sch.tn_s _ rfl rfl rfl ?_; simp only [Act.put, List.setIfInBounds_toArray, List.set_cons_zero, List.set_cons_succ])
                | (refine Sch.tn_se _ rfl rfl rfl ?_; simp only [Act.put, List.setIfInBounds_toArray, List.set_cons_zero, List.set_cons_succ]))
              refine Sch.tn_n ?_
              go_wp2_with fail
              go_ret
              exact ⟨by rw [HN.out]; rfl, HB.out.trans (HBd.out.mono HB.out.size)⟩
            · have HVq : Hid (validR ys[k] = true) := by show _ = _; rw [← HQ.out]; exact hvq
              have HIq : Hid (∀ j (hj : j + 1 < ys.length), j + 1 = k → less (ys[j]'(by omega)) ys[j + 1] = true) := fun j hj e => by have := HK00.out; omega
              clear hvq
              repeat (first
                | (refine Sch.tn_q rfl rfl rfl (fun K hK => ?_); go_big_quiet_op; (first | refine hK _ ?_ | refine ⟨_, fun _ _ => rfl, hK _ ?_⟩); clear hK K)
                | (refine Sch.tn_chk _ _ _ rfl rfl rfl rfl rfl ?_; simp only [Act.put, List.setIfInBounds_toArray, List.set_cons_zero, List.set_cons_succ])
                | (refine Sch.tn_load _ _ _ _ _ rfl rfl rfl rfl (by first | exact Cv.v | exact Cv.s | exact Cv.d2 | exact Cv.bx | exact Cv.b0 | exact Cv.b1) rfl ?_; simp only [Act.put, List.setIfInBounds_toArray, List.set_cons_zero, List.set_cons_succ])
                | (refine Sch.tn_s _ rfl rfl rfl ?_; simp only [Act.put, List.setIfInBounds_toArray, List.set_cons_zero, List.set_cons_succ])
                | (refine Sch.tn_se _ rfl rfl rfl ?_; simp only [Act.put, List.setIfInBounds_toArray, List.set_cons_zero, List.set_cons_succ]))
              refine Sch.tn_e rfl rfl (fun K hK => ?_)
              go_wp2_with fail
              refine (HLa.out q.1 _ (HR1.out.keep HBd.out)).mono ?_
              rintro e w5 ⟨rfl, hl⟩
              have hb := hl.bel
              clear hl
              replace HK0 := Lib.hid (HK0.out.keep hb)
              replace HBd := bel_tr HBd hb
              clear hb
              refine hK _ _ HK0.out ?_
              clear hK K
              have hw5 := HGw.out q.1
              by_cases hgq : q.2 ≤ getV v q.1 + 1
              · have hge : decide (q.2 ≤ getV v q.1 + 1) = true := decide_eq_true hgq
                have HN : Hid (R = false) := HNo5.out k hlt (by rw [← HQ.out]; exact hgq)
                clear hgq
                generalize getV v q.1 = gq at *
                repeat (first
                  | (refine Sch.tn_q rfl rfl rfl (fun K hK => ?_); go_big_quiet_op; (first | refine hK _ ?_ | refine ⟨_, fun _ _ => rfl, hK _ ?_⟩); clear hK K)
                  | (refine Sch.tn_chk _ _ _ rfl rfl rfl rfl rfl ?_; simp only [Act.put, List.setIfInBounds_toArray, List.set_cons_zero, List.set_cons_succ])
                  | (refine Sch.tn_load _ _ _ _ _ rfl rfl rfl rfl (by first | exact Cv.v | exact Cv.s | exact Cv.d2 | exact Cv.bx | exact Cv.b0 | exact Cv.b1) rfl ?_; simp only [Act.put, List.setIfInBounds_toArray, List.set_cons_zero, List.set_cons_succ])
                  | (refine Sch.tn_s _ rfl rfl rfl ?_; simp only [Act.put, List.setIfInBounds_toArray, List.set_cons_zero, List.set_cons_succ])
                  | (refine Sch.tn_se _ rfl rfl rfl ?_; simp only [Act.put, List.setIfInBounds_toArray, List.set_cons_zero, List.set_cons_succ]))
                refine Sch.tn_n ?_
                go_wp2_with fail
                go_ret
                exact ⟨by rw [HN.out]; rfl, HB.out.trans (HBd.out.mono HB.out.size)⟩
              · have hge : decide (q.2 ≤ getV v q.1 + 1) = false := decide_eq_false hgq
                have HGq : Hid (getV v ys[k].1 + 1 < ys[k].2) := by show _ < _; rw [← HQ.out]; omega
                clear hgq
                generalize getV v q.1 = gq at *
                repeat (first
                  | (refine Sch.tn_q rfl rfl rfl (fun K hK => ?_); go_big_quiet_op; (first | refine hK _ ?_ | refine ⟨_, fun _ _ => rfl, hK _ ?_⟩); clear hK K)
                  | (refine Sch.tn_chk _ _ _ rfl rfl rfl rfl rfl ?_; simp only [Act.put, List.setIfInBounds_toArray, List.set_cons_zero, List.set_cons_succ])
                  | (refine Sch.tn_load _ _ _ _ _ rfl rfl rfl rfl (by first | exact Cv.v | exact Cv.s | exact Cv.d2 | exact Cv.bx | exact Cv.b0 | exact Cv.b1) rfl ?_; simp only [Act.put, List.setIfInBounds_toArray, List.set_cons_zero, List.set_cons_succ])
                  | (refine Sch.tn_s _ rfl rfl rfl ?_; simp only [Act.put, List.setIfInBounds_toArray, List.set_cons_zero, List.set_cons_succ])
                  | (refine Sch.tn_se _ rfl rfl rfl ?_; simp only [Act.put, List.setIfInBounds_toArray, List.set_cons_zero, List.set_cons_succ]))
                refine Sch.tn_n ?_
                go_wp2_with fail
                go_roundw
                case rel => exact ⟨k + 1, by omega, by go_num, HBd, fun j hj hjk => by
                  by_cases e : j = k
                  · subst e; exact ⟨HVq.out, HGq.out⟩
                  · exact HV.out j hj (by omega), fun j hj hjk => by
                  by_cases e : j + 1 = k
                  · subst e; exact HIq.out j hj rfl
                  · exact HI.out j hj (by omega)⟩
                case measure => simp [intOf]; omega
          · have hz : decide ((k : Int) > 0) = true := decide_eq_true (by omega)
            have hz2 : decide (0 < k) = true := decide_eq_true (by omega)
            have HK00 : Hid (k ≠ 0) := hk0
            have hwr : IntKind.i64.wrap ((k : Int) - 1) = (k : Int) - 1 := wrap_mid (by omega) (by have := HLen.out; omega)
            have hix2 := ix_dot b1 o1 ys.length n2 (k - 1) ((k : Int) - 1) (by omega) (by omega)
            have HPd := Lib.hid (sd_row HR2.out (hh.out) (k - 1) (by omega))
            have HBf := Lib.hid (fun w => before_ref (ys[k - 1]) ys[k] w)
            obtain ⟨q, hq⟩ : ∃ q, q = ys[k] := ⟨_, rfl⟩
            obtain ⟨p, hp⟩ : ∃ p, p = ys[k - 1] := ⟨_, rfl⟩
            rw [← hq] at HQd HG HBf
            rw [← hp] at HPd HBf
            have HQ := Lib.hid hq
            have HP := Lib.hid hp
            clear hq hp
            have hb0 := bel_box wr (.cells #[.int .i64 q.1, .int .i64 q.2] 36)
            have HK0 : Hid (Cv w.heap.size (.slice a1 v.length n1) (.slice (some ⟨b1, o1, none⟩) ys.length n2) b1 (o1 + k * 2) (o1 + (k - 1) * 2) q p wr.heap.size (wr.alloc (.cells #[.int .i64 q.1, .int .i64 q.2] 36)).drew) := Lib.hid (Cv.keep ⟨Cw.keep ⟨HT.out.keep hh.out, HQd.out, HPd.out⟩ hb0, dot_new wr q⟩ (Below.refl _ _).drew)
            have HBd : Hid (Below w1.heap.size w1 (wr.alloc (.cells #[.int .i64 q.1, .int .i64 q.2] 36)).drew) := Lib.hid (hh.out.trans (hb0.mono hh.out.size)).drew
            clear hb0
            obtain ⟨c0, c1⟩ := HQd.out
            obtain ⟨t0, t1⟩ := (HT.out.keep hh.out)
            go_upto_region 10 with fail
            clear c0 c1 t0 t1
            generalize wr.alloc (.cells #[.int .i64 q.1, .int .i64 q.2] 36) = w1x at *
            generalize wr.heap.size = gx at *
            go_wp2_with fail
            refine Sch.wp_region_tn (Cv w.heap.size (.slice a1 v.length n1) (.slice (some ⟨b1, o1, none⟩) ys.length n2) b1 (o1 + k * 2) (o1 + (k - 1) * 2) q p gx) (.val 0 (.one 1 (.val 2 (.val 3 (.val 4 (.val 5 (.val 6 (.val 7 (.val 8 (.val 9 (.val 10 (.val 11 (.val 12 (.val 13 (.one 14 (.val 15 (.val 16 (.val 17 (.val 18 (.val 19 (.val 20 (.val 21 (.val 22 (.val 23 (.val 24 (.one 25 (.val 26 (.val 27 (.val 28 .done))))))))))))))))))))))))))))) (by kernel_rfl) (by kernel_rfl) HK0.out ?_
            repeat (first
              | (refine Sch.tn_q rfl rfl rfl (fun K hK => ?_); go_big_quiet_op; (first | refine hK _ ?_ | refine ⟨_, fun _ _ => rfl, hK _ ?_⟩); clear hK K)
              | (refine Sch.tn_chk _ _ _ rfl rfl rfl rfl rfl ?_; simp only [Act.put, List.setIfInBounds_toArray, List.set_cons_zero, List.set_cons_succ])
              | (refine Sch.tn_load _ _ _ _ _ rfl rfl rfl rfl (by first | exact Cv.v | exact Cv.s | exact Cv.d2 | exact Cv.bx | exact Cv.b0 | exact Cv.b1) rfl ?_; simp only [Act.put, List.setIfInBounds_toArray, List.set_cons_zero, List.set_cons_succ]))
            generalize w1x.drew = w2 at *
            refine Sch.tn_e rfl rfl (fun K hK => ?_)
            go_wp2_with fail
            refine (HG.out _).mono ?_
            rintro e w3 ⟨rfl, hb⟩
            replace HK0 := Lib.hid (HK0.out.keep hb)
            replace HBd := bel_tr HBd hb
            clear hb HG
            refine hK _ _ HK0.out ?_
            clear hK K
            rcases hvq : validR q with _ | _
            · have HN : Hid (R = false) := HNo3.out k hlt (by rw [← HQ.out]; exact hvq)
              clear hvq
              repeat (first
                | (refine Sch.tn_q rfl rfl rfl (fun K hK => ?_); go_big_quiet_op; (first | refine hK _ ?_ | refine ⟨_, fun _ _ => rfl, hK _ ?_⟩); clear hK K)
                | (refine Sch.tn_chk _ _ _ rfl rfl rfl rfl rfl ?_; simp only [Act.put, List.setIfInBounds_toArray, List.set_cons_zero, List.set_cons_succ])
                | (refine Sch.tn_load _ _ _ _ _ rfl rfl rfl rfl (by first | exact Cv.v | exact Cv.s | exact Cv.d2 | exact Cv.bx | exact Cv.b0 | exact Cv.b1) rfl ?_; simp only [Act.put, List.setIfInBounds_toArray, List.set_cons_zero, List.set_cons_succ])
                | (refine Sch.tn_s _ rfl rfl rfl ?_; simp only [Act.put, List.setIfInBounds_toArray, List.set_cons_zero, List.set_cons_succ])
                | (refine Sch.tn_se _ rfl rfl rfl ?_; simp only [Act.put, List.setIfInBounds_toArray, List.set_cons_zero, List.set_cons_succ]))
              refine Sch.tn_n ?_
              go_wp2_with fail
              go_ret
              exact ⟨by rw [HN.out]; rfl, HB.out.trans (HBd.out.mono HB.out.size)⟩
            · have HVq : Hid (validR ys[k] = true) := by show _ = _; rw [← HQ.out]; exact hvq
              clear hvq
              repeat (first
                | (refine Sch.tn_q rfl rfl rfl (fun K hK => ?_); go_big_quiet_op; (first | refine hK _ ?_ | refine ⟨_, fun _ _ => rfl, hK _ ?_⟩); clear hK K)
                | (refine Sch.tn_chk _ _ _ rfl rfl rfl rfl rfl ?_; simp only [Act.put, List.setIfInBounds_toArray, List.set_cons_zero, List.set_cons_succ])
                | (refine Sch.tn_load _ _ _ _ _ rfl rfl rfl rfl (by first | exact Cv.v | exact Cv.s | exact Cv.d2 | exact Cv.bx | exact Cv.b0 | exact Cv.b1) rfl ?_; simp only [Act.put, List.setIfInBounds_toArray, List.set_cons_zero, List.set_cons_succ])
                | (refine Sch.tn_s _ rfl rfl rfl ?_; simp only [Act.put, List.setIfInBounds_toArray, List.set_cons_zero, List.set_cons_succ])
                | (refine Sch.tn_se _ rfl rfl rfl ?_; simp only [Act.put, List.setIfInBounds_toArray, List.set_cons_zero, List.set_cons_succ]))
              refine Sch.tn_e rfl rfl (fun K hK => ?_)
              go_wp2_with fail
              refine (HBf.out _).mono ?_
              rintro e w4 ⟨rfl, hl⟩
              have hb := hl.bel
              clear hl
              replace HK0 := Lib.hid (HK0.out.keep hb)
              replace HBd := bel_tr HBd hb
              clear hb
              refine hK _ _ HK0.out ?_
              clear hK K
              rcases hpq : less p q with _ | _
              · have HN : Hid (R = false) := HNo4.out (k - 1) (by omega) (by
                  have h1 := HP.out
                  have h2 := HQ.out
                  have e : k - 1 + 1 = k := by omega
                  simp only [e]
                  rw [← h1, ← h2]
                  first | exact hpq | omega)
                clear hpq
                repeat (first
                  | (refine Sch.tn_q rfl rfl rfl (fun K hK => ?_); go_big_quiet_op; (first | refine hK _ ?_ | refine ⟨_, fun _ _ => rfl, hK _ ?_⟩); clear hK K)
                  | (refine Sch.tn_chk _ _ _ rfl rfl rfl rfl rfl ?_; simp only [Act.put, List.setIfInBounds_toArray, List.set_cons_zero, List.set_cons_succ])
                  | (refine Sch.tn_load _ _ _ _ _ rfl rfl rfl rfl (by first | exact Cv.v | exact Cv.s | exact Cv.d2 | exact Cv.bx | exact Cv.b0 | exact Cv.b1) rfl ?_; simp only [Act.put, List.setIfInBounds_toArray, List.set_cons_zero, List.set_cons_succ])
                  | (refine Sch.tn_s _ rfl rfl rfl ?_; simp only [Act.put, List.setIfInBounds_toArray, List.set_cons_zero, List.set_cons_succ])
                  | (refine Sch.tn_se _ rfl rfl rfl ?_; simp only [Act.put, List.setIfInBounds_toArray, List.set_cons_zero, List.set_cons_succ]))
                refine Sch.tn_n ?_
                go_wp2_with fail
                go_ret
                exact ⟨by rw [HN.out]; rfl, HB.out.trans (HBd.out.mono HB.out.size)⟩
              · have HIq : Hid (∀ j (hj : j + 1 < ys.length), j + 1 = k → less (ys[j]'(by omega)) ys[j + 1] = true) := fun j hj e => by
                  subst e
                  rw [← HQ.out]
                  have := HP.out
                  simp only [Nat.add_sub_cancel] at this
                  rw [← this]
                  exact hpq
                clear hpq
                repeat (first
                  | (refine Sch.tn_q rfl rfl rfl (fun K hK => ?_); go_big_quiet_op; (first | refine hK _ ?_ | refine ⟨_, fun _ _ => rfl, hK _ ?_⟩); clear hK K)
                  | (refine Sch.tn_chk _ _ _ rfl rfl rfl rfl rfl ?_; simp only [Act.put, List.setIfInBounds_toArray, List.set_cons_zero, List.set_cons_succ])
                  | (refine Sch.tn_load _ _ _ _ _ rfl rfl rfl rfl (by first | exact Cv.v | exact Cv.s | exact Cv.d2 | exact Cv.bx | exact Cv.b0 | exact Cv.b1) rfl ?_; simp only [Act.put, List.setIfInBounds_toArray, List.set_cons_zero, List.set_cons_succ])
                  | (refine Sch.tn_s _ rfl rfl rfl ?_; simp only [Act.put, List.setIfInBounds_toArray, List.set_cons_zero, List.set_cons_succ])
                  | (refine Sch.tn_se _ rfl rfl rfl ?_; simp only [Act.put, List.setIfInBounds_toArray, List.set_cons_zero, List.set_cons_succ]))
                refine Sch.tn_e rfl rfl (fun K hK => ?_)
                go_wp2_with fail
                refine (HLa.out q.1 _ (HR1.out.keep HBd.out)).mono ?_
                rintro e w5 ⟨rfl, hl⟩
                have hb := hl.bel
                clear hl
                replace HK0 := Lib.hid (HK0.out.keep hb)
                replace HBd := bel_tr HBd hb
                clear hb
                refine hK _ _ HK0.out ?_
                clear hK K
                have hw5 := HGw.out q.1
                by_cases hgq : q.2 ≤ getV v q.1 + 1
                · have hge : decide (q.2 ≤ getV v q.1 + 1) = true := decide_eq_true hgq
                  have HN : Hid (R = false) := HNo5.out k hlt (by rw [← HQ.out]; exact hgq)
                  clear hgq
                  generalize getV v q.1 = gq at *
                  repeat (first
                    | (refine Sch.tn_q rfl rfl rfl (fun K hK => ?_); go_big_quiet_op; (first | refine hK _ ?_ | refine ⟨_, fun _ _ => rfl, hK _ ?_⟩); clear hK K)
                    | (refine Sch.tn_chk _ _ _ rfl rfl rfl rfl rfl ?_; simp only [Act.put, List.setIfInBounds_toArray, List.set_cons_zero, List.set_cons_succ])
                    | (refine Sch.tn_load _ _ _ _ _ rfl rfl rfl rfl (by first | exact Cv.v | exact Cv.s | exact Cv.d2 | exact Cv.bx | exact Cv.b0 | exact Cv.b1) rfl ?_; simp only [Act.put, List.setIfInBounds_toArray, List.set_cons_zero, List.set_cons_succ])
                    | (refine Sch.tn_s _ rfl rfl rfl ?_; simp only [Act.put, List.setIfInBounds_toArray, List.set_cons_zero, List.set_cons_succ])
                    | (refine Sch.tn_se _ rfl rfl rfl ?_; simp only [Act.put, List.setIfInBounds_toArray, List.set_cons_zero, List.set_cons_succ]))
                  refine Sch.tn_n ?_
                  go_wp2_with fail
                  go_ret
                  exact ⟨by rw [HN.out]; rfl, HB.out.trans (HBd.out.mono HB.out.size)⟩
                · have hge : decide (q.2 ≤ getV v q.1 + 1) = false := decide_eq_false hgq
                  have HGq : Hid (getV v ys[k].1 + 1 < ys[k].2) := by show _ < _; rw [← HQ.out]; omega
                  clear hgq
                  generalize getV v q.1 = gq at *
                  repeat (first
                    | (refine Sch.tn_q rfl rfl rfl (fun K hK => ?_); go_big_quiet_op; (first | refine hK _ ?_ | refine ⟨_, fun _ _ => rfl, hK _ ?_⟩); clear hK K)
                    | (refine Sch.tn_chk _ _ _ rfl rfl rfl rfl rfl ?_; simp only [Act.put, List.setIfInBounds_toArray, List.set_cons_zero, List.set_cons_succ])
                    | (refine Sch.tn_load _ _ _ _ _ rfl rfl rfl rfl (by first | exact Cv.v | exact Cv.s | exact Cv.d2 | exact Cv.bx | exact Cv.b0 | exact Cv.b1) rfl ?_; simp only [Act.put, List.setIfInBounds_toArray, List.set_cons_zero, List.set_cons_succ])
                    | (refine Sch.tn_s _ rfl rfl rfl ?_; simp only [Act.put, List.setIfInBounds_toArray, List.set_cons_zero, List.set_cons_succ])
                    | (refine Sch.tn_se _ rfl rfl rfl ?_; simp only [Act.put, List.setIfInBounds_toArray, List.set_cons_zero, List.set_cons_succ]))
                  refine Sch.tn_n ?_
                  go_wp2_with fail
                  go_roundw
                  case rel => exact ⟨k + 1, by omega, by go_num, HBd, fun j hj hjk => by
                    by_cases e : j = k
                    · subst e; exact ⟨HVq.out, HGq.out⟩
                    · exact HV.out j hj (by omega), fun j hj hjk => by
                    by_cases e : j + 1 = k
                    · subst e; exact HIq.out j hj rfl
                    · exact HI.out j hj (by omega)⟩
                  case measure => simp [intOf]; omega
        · obtain rfl : k = ys.length := by omega
          have HN : Hid (R = true) := HYes.out HVd.out (fun j hj => (HV.out j hj hj).1) (fun j hj => HI.out j hj hj) (fun j hj => (HV.out j hj hj).2)
          have hend : ¬ (ys.length : Int) < (ys.length : Int) := by omega
          obtain ⟨t0, t1⟩ := HT.out.keep hh.out
          have HBd := hh
          go_wp2_with fail
          go_ret
          exact ⟨by rw [HN.out]; rfl, HB.out.trans (HBd.out.mono HB.out.size)⟩
end Go.Proofs.Ytfmlenhakejefaa.Dg
