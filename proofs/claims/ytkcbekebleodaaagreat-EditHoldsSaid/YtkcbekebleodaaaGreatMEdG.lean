/-
  Layer 15: the reference's Replace, where the place is there: the walk.
-/
import Derived.Test.YtkcbekebleodaaaGreatMWCol
import Derived.Test.YtkcbekebleodaaaGreatMQAdd
import Derived.Test.YtkcbekebleodaaaGreatMDSet

section
namespace Go.Proofs.YtkcbekebleodaaaGreat.Ed
set_option linter.unusedVariables false
open Go.RowKit V Go.Shelf D Nd Qs Wk Ix Jn Fo
attribute [local irreducible] Sch.heldN Sch.stepV Sch.stepE

theorem bd_set {w : World} {g : Nat} {d : Dt} (h : Un.Bd w g d) (e : Dt) : Un.Bd ((w.setCell ⟨g, 0, none⟩ (.int .i64 e.1)).setCell ⟨g, 1, none⟩ (.int .i64 e.2)) g e := by
  unfold Un.Bd at h ⊢
  simp [World.setCell, Array.getElem?_modify, h]
theorem gb_two (w : World) (g : Nat) (u v : Value) : w.grownBy ((w.setCell ⟨g, 0, none⟩ u).setCell ⟨g, 1, none⟩ v) (some g) := gb_trans (gb_setCell _ _ _ _) (gb_setCell _ _ _ _)
theorem bd_free {w : World} {g : Nat} {d : Dt} (h : Un.Bd w g d) (o : Nat) : w.frozen? ⟨g, o, none⟩ = false := by unfold Un.Bd at h; simp [World.frozen?, h]
theorem nb_putN {w : World} {g : Nat} {z : Nt} (h : Nb w g z) (n : Nt) : Nb (Nd.putN w g n) g n := by
  obtain ⟨z0, z1, z2, z3, z4, z5⟩ := h
  unfold Nd.putN
  refine ⟨?_, ?_, ?_, ?_, ?_, ?_⟩ <;> go_simp
/-- The new dot's box, the parent's, the rune at its place. -/
def Dx (gd g7 b3 p : Nat) (d P : Dt) (r : Int) (w : World) : Prop := Un.Bd w gd d ∧ Un.Bd w g7 P ∧ w.cell? ⟨b3, p, none⟩ = some (.int .i32 r)
section
variable {gd g7 b3 p : Nat} {d P : Dt} {r : Int}
theorem Dx.keep {w w' : World} (h : Dx gd g7 b3 p d P r w) (hb : Below w.heap.size w w') : Dx gd g7 b3 p d P r w' := ⟨h.1.keep hb, h.2.1.keep hb, (hb.cell (p := ⟨b3, p, none⟩) (lt_of_cell h.2.2)).trans h.2.2⟩
theorem Dx.put {w : World} (h : Dx gd g7 b3 p d P r w) {g : Nat} (h1 : gd < g) (h2 : g7 < g) (h3 : b3 < g) (n : Nt) : Dx gd g7 b3 p d P r (Nd.putN w g n) := by
  have hg := Jn.gb_putN w g n
  have k1 : (Nd.putN w g n).heap[gd]? = w.heap[gd]? := hg.block gd h.1.lt (by simp; omega)
  have k2 : (Nd.putN w g n).heap[g7]? = w.heap[g7]? := hg.block g7 h.2.1.lt (by simp; omega)
  have k3 : (Nd.putN w g n).heap[b3]? = w.heap[b3]? := hg.block b3 (lt_of_cell h.2.2) (by simp; omega)
  exact ⟨k1.trans h.1, k2.trans h.2.1, (World.cell?_of_block (a := ⟨b3, p, none⟩) k3).trans h.2.2⟩
theorem Dx.l0 : ∀ w, Dx gd g7 b3 p d P r w → (Instr.loadAt 3 (.pointer (some ⟨gd, 0, none⟩))).run Tryz.prog w = .ok (.int .i64 d.1) w := fun w h => by
  have h1 := h.1.c0
  go_simp
theorem Dx.l1 : ∀ w, Dx gd g7 b3 p d P r w → (Instr.loadAt 3 (.pointer (some ⟨gd, 1, none⟩))).run Tryz.prog w = .ok (.int .i64 d.2) w := fun w h => by
  have h1 := h.1.c1
  go_simp
theorem Dx.lp : ∀ w, Dx gd g7 b3 p d P r w → (Instr.loadAt 25 (.pointer (some ⟨g7, 0, none⟩))).run Tryz.prog w = .ok (dv P) w := fun w h => load_dotB h.2.1
theorem Dx.lr : ∀ w, Dx gd g7 b3 p d P r w → (Instr.loadAt 21 (.pointer (some ⟨b3, p, none⟩))).run Tryz.prog w = .ok (.int .i32 r) w := fun w h => by
  have h1 := h.2.2
  go_simp
end
set_option maxRecDepth 100000 in
set_option maxHeartbeats 8000000 in
theorem replace_in (l : List Nt) (d : Dt) (m n : Nat) (rs : List Int) (a b : Option Addr) (c e : Nat) (w : World) (hx : RowN w a l) (hr : G.RowI .i32 w b rs) (hlx : l.length ≤ 300000) (hrl : rs.length ≤ 1000000)
    (hw : wellS l = true) (hd : validR d = true) (hin : m + n ≤ (visS l).length) :
    Calls Tryz.prog 12 #[.slice a l.length c, dv d, .int .i64 (m : Int), .int .i64 (n : Int), .slice b rs.length e] w fun e w' => ∃ v, e = .returned (.tuple #[v, .int .i64 (repP l d (m : Int) (n : Int) rs).2]) ∧ ON w' w.heap.size EN v (repP l d (m : Int) (n : Int) rs).1 ∧ Below w.heap.size w w' := by
  have hv := well_valid hw
  have hwd : (wellS l && validR d) = true := by rw [hw, hd]; rfl
  have hno : ¬ offR l (m : Int) (n : Int) := by unfold offR; omega
  have FL : Hid (10000 < rs.length ∨ 10000 < (n : Int) → repP l d (m : Int) (n : Int) rs = ([], 5)) := fun h => rep_long hwd hno h
  have FR : Hid (¬ (10000 < rs.length ∨ 10000 < (n : Int)) → rs.all R.vld = false → repP l d (m : Int) (n : Int) rs = ([], 13)) := fun h h2 => rep_rune hwd hno h h2
  have FE : Hid (¬ (10000 < rs.length ∨ 10000 < (n : Int)) → rs.all R.vld = true → 4294967295 - d.2 + 1 < (rs.length : Int) ∨ 4611686018427387904 - timeS l < (rs.length : Int) → repP l d (m : Int) (n : Int) rs = ([], 14)) := fun h h2 h3 => rep_ex hwd hno h h2 h3
  have FB : Hid (¬ (10000 < rs.length ∨ 10000 < (n : Int)) → rs.all R.vld = true → ¬ (4294967295 - d.2 + 1 < (rs.length : Int) ∨ 4611686018427387904 - timeS l < (rs.length : Int)) → ∀ k : Nat, k < rs.length → (atS l (d.1, d.2 + (k : Int))).isSome = true → repP l d (m : Int) (n : Int) rs = ([], 11)) := fun h h2 h3 k hk hb => rep_busy hwd hno h h2 h3 hk hb
  have FF : Hid (¬ (10000 < rs.length ∨ 10000 < (n : Int)) → rs.all R.vld = true → ¬ (4294967295 - d.2 + 1 < (rs.length : Int) ∨ 4611686018427387904 - timeS l < (rs.length : Int)) → (∀ k : Nat, k < rs.length → atS l (d.1, d.2 + (k : Int)) = none) → repP l d (m : Int) (n : Int) rs = (((chainS l d m rs).foldl stepR ((killsS l m n).foldl stepR [])), 0)) := fun h h2 h3 h4 => rep_fine hwd hno h h2 h3 h4
  have HW := Lib.hid (fun w h => well_ref l a c w h hlx)
  have HD := Lib.hid (fun w => isDot_ref d w)
  have HV := Lib.hid (fun w h => visible_ref l hv a c w h hlx)
  have HLt := Lib.hid (fun w h => latest_ref l a c w h hlx)
  have HLe : Hid (lateP l = timeS l) := by show _ = _; unfold lateP; rw [hv]; rfl
  have HTb : Hid (0 ≤ timeS l ∧ timeS l ≤ 4611686018427387904) := ⟨time_pos l, time_max (by omega) fun x hx => (valid_vn.1 ((validS_iff.1 hv).1 x hx)).2.2.2.2.1⟩
  have HDb : Hid (1 ≤ d.2 ∧ d.2 ≤ 4294967295 ∧ 1 ≤ d.1 ∧ d.1 ≤ 64) := by have := valid_iff.1 hd; show _ ∧ _; omega
  have HFi := Lib.hid (fun x w h => find_ref l x a c w h (by omega))
  have HIx := Lib.hid (fun x => idx_eq (l := l) (d := x))
  have HB := Lib.hid (bel_box w (.cells #[.int .i64 d.1, .int .i64 d.2] 25))
  have HX := Lib.hid (hx.keep HB.out)
  have HRr := Lib.hid (hr.keep HB.out (Nat.le_refl _))
  have HK := Lib.hid (Un.bd_new w d)
  have HVl : Hid ((visS l).length ≤ 300000) := Nat.le_trans (vis_len hv) hlx
  have HKl : Hid ((killsS l m n).length = n) := kills_len hin
  have HKg : Hid (∀ k (hk : k < n), ∃ h : k < (killsS l m n).length, ∃ h2 : m + k < (visS l).length, (killsS l m n)[k] = killN (visS l)[m + k]) := fun k hk => by
    obtain ⟨h1, h2⟩ := kills_get (l := l) (i := m) (n := n) hk (by omega)
    exact ⟨h1, by omega, h2⟩
  have HPar : Hid ((m = 0 → parS l m = (0, 0)) ∧ ∀ k, m = k + 1 → ∃ h : k < (visS l).length, parS l m = (visS l)[k].1) := by
    refine ⟨fun h => by unfold parS; rw [if_pos h], fun k hk => ⟨by omega, ?_⟩⟩
    unfold parS
    rw [if_neg (by omega), show m - 1 = k by omega, List.getElem?_eq_getElem (show k < (visS l).length by omega)]
  have HIn := Lib.hid hin
  have HCs : Hid (chainS l d m rs = chainN d (parS l m) (timeS l + 1) rs) := rfl
  have hri : (rs.length : Int) ≤ 1000000 := by omega
  rw [hw] at HW
  rw [hd] at HD
  clear hx hr hw hd hv hwd hno hrl
  generalize repP l d (m : Int) (n : Int) rs = RZ at *
  generalize hKK : killsS l m n = KS at *
  generalize chainS l d m rs = CS at *
  generalize parS l m = PR at *
  generalize lateP l = LT at *
  have HE0 := HLe.out
  subst HE0
  generalize hTT : timeS l = TS at *
  have hvis : ((visS l).length : Int) ≤ 300000 := by have := HVl.out; omega
  have hm1 : ¬ ((m : Int) < 0) := by omega
  have hm2 : ¬ (((visS l).length : Int) < (m : Int)) := by omega
  have hm3 : ¬ ((n : Int) < 0) := by omega
  have hm4 : decide ((n : Int) > ((visS l).length : Int) - (m : Int)) = false := decide_eq_false (by omega)
  have hm1' : decide ((m : Int) < 0) = false := decide_eq_false hm1
  have hm2' : decide (((visS l).length : Int) < (m : Int)) = false := decide_eq_false hm2
  have hm3' : decide ((n : Int) < 0) = false := decide_eq_false hm3
  have hml : (m : Int) ≤ 300000 := by omega
  have hnl : (n : Int) ≤ 300000 := by omega
  clear hlx hin hKK hTT HLe
  generalize visS l = V at *
  go_enter Tryz.func12, Tryz.ntmps12
  go_wp2_with fail
  generalize w.alloc (.cells #[.int .i64 d.1, .int .i64 d.2] 25) = w1 at *
  refine (HW.out _ HX.out).mono ?_
  rintro e w2 ⟨rfl, hb⟩
  have HB2 := bel_tr HB hb
  have HK2 := Lib.hid (HK.out.keep hb)
  have HX2 := Lib.hid (HX.out.keep hb)
  have HR2 := Lib.hid (HRr.out.keep hb (Nat.le_refl _))
  clear hb HW HB HK HX HRr
  have c0 := HK2.out.c0
  have c1 := HK2.out.c1
  go_wp2_with fail
  refine (HD.out _).mono ?_
  rintro e w3 ⟨rfl, hb⟩
  have HB3 := bel_tr HB2 hb
  have HX3 := Lib.hid (HX2.out.keep hb)
  have HK3 := Lib.hid (HK2.out.keep hb)
  have HR3 := Lib.hid (HR2.out.keep hb (Nat.le_refl _))
  clear hb HB2 HX2 HK2 HR2 HD c0 c1
  go_wp2_with fail
  refine (HV.out _ HX3.out).mono ?_
  rintro e w4 ⟨v4, rfl, ho, hb⟩
  have HB4 := bel_tr HB3 hb
  have HX4 := Lib.hid (HX3.out.keep hb)
  have HK4 := Lib.hid (HK3.out.keep hb)
  have HR4 := Lib.hid (HR3.out.keep hb (Nat.le_refl _))
  obtain ⟨a4, c4, rfl, hr4, -⟩ := ON.row ho
  have HV4 := Lib.hid hr4
  clear hb HB3 HX3 HK3 HR3 ho hr4 HV
  by_cases hL : 10000 < rs.length
  · have hLi : (10000 : Int) < (rs.length : Int) := by omega
    have HRR := Lib.hid (FL.out (.inl hL))
    clear hL
    go_wp2_with fail
    go_ret2
    rw [HRR.out]
    exact ⟨_, rfl, ON.nil _ _ _, HB4.out⟩
  by_cases hN : 10000 < (n : Int)
  · have HRR := Lib.hid (FL.out (.inr hN))
    have hLi : ¬ (10000 : Int) < (rs.length : Int) := by omega
    clear hL
    go_wp2_with fail
    go_ret2
    rw [HRR.out]
    exact ⟨_, rfl, ON.nil _ _ _, HB4.out⟩
  have hLi : ¬ (10000 : Int) < (rs.length : Int) := by omega
  have hnn : ¬ (10000 < rs.length ∨ 10000 < (n : Int)) := by omega
  replace FR := Lib.hid (FR.out hnn)
  replace FE := Lib.hid (FE.out hnn)
  replace FB := Lib.hid (FB.out hnn)
  replace FF := Lib.hid (FF.out hnn)
  have HLn : Hid (rs.length ≤ 10000 ∧ n ≤ 10000) := by show _ ∧ _; omega
  clear hL hnn FL
  go_wp2_with fail
  go_loopw [13] (fun i wr => ∃ k : Nat, k ≤ rs.length ∧ i = .int .i64 (k : Int) ∧ Hid (Below w4.heap.size w4 wr) ∧ Hid (∀ j (hj : j < rs.length), j < k → R.vld rs[j] = true)) (fun i _ => rs.length - (intOf i).toNat)
  case atStart => exact ⟨0, Nat.zero_le _, rfl, Below.refl _ _, fun j hj h => by omega⟩
  case round =>
    obtain ⟨k, hk, rfl, HZ, HVd⟩ := hrel
    by_cases hlt : k < rs.length
    · have hi0 : (k : Int) < (rs.length : Int) := by omega
      obtain ⟨b1, o1, rfl, cr⟩ := rowI_at (HR4.out.keep HZ.out (Nat.le_refl _)) k hlt
      have HBad : Hid (R.vld rs[k] = false → rs.all R.vld = false) := fun h => by
        rw [← Bool.not_eq_true, List.all_eq_true]
        intro h2
        have := h2 _ (List.getElem_mem hlt)
        rw [h] at this
        cases this
      have HVn : Hid (R.vld rs[k] = true → ∀ j (hj : j < rs.length), j < k + 1 → R.vld rs[j] = true) := fun h j hj hjk => by
        by_cases e : j = k
        · subst e; exact h
        · exact HVd.out j hj (by omega)
      have HIr := Lib.hid (fun w => isRune_ref rs[k] w)
      generalize rs[k] = q at *
      rcases hq : R.vld q with _ | _
      · have HRR := Lib.hid (FR.out (HBad.out hq))
        rw [hq] at HIr
        clear hq HVn HBad
        go_wp2_with fail
        refine (HIr.out _).mono ?_
        rintro e w5 ⟨rfl, rfl⟩
        go_wp2_with fail
        go_ret2
        rw [HRR.out]
        exact ⟨_, rfl, ON.nil _ _ _, (bel_tr HB4 HZ.out).out⟩
      · have HV2 := Lib.hid (HVn.out hq)
        rw [hq] at HIr
        clear hq HVn HBad
        go_wp2_with fail
        refine (HIr.out _).mono ?_
        rintro e w5 ⟨rfl, rfl⟩
        go_wp2_with fail
        go_roundw
        case rel => exact ⟨k + 1, by omega, by go_num, HZ, HV2⟩
        case measure => simp [intOf]; omega
    · obtain rfl : k = rs.length := by omega
      have hend : ¬ (rs.length : Int) < (rs.length : Int) := by omega
      have hAll : rs.all R.vld = true := by
        rw [List.all_eq_true]
        intro x hx
        obtain ⟨j, hj, rfl⟩ := List.mem_iff_getElem.1 hx
        exact HVd.out j hj hj
      replace FE := Lib.hid (FE.out hAll)
      replace FB := Lib.hid (FB.out hAll)
      replace FF := Lib.hid (FF.out hAll)
      have HB5 := bel_tr HB4 HZ.out
      have HX5 := Lib.hid (HX4.out.keep HZ.out)
      have HK5 := Lib.hid (HK4.out.keep HZ.out)
      have HR5 := Lib.hid (HR4.out.keep HZ.out (Nat.le_refl _))
      have HV5 := Lib.hid (HV4.out.keep HZ.out)
      clear HZ HVd FR hAll HB4 HX4 HK4 HR4 HV4
      have c0 := HK5.out.c0
      have c1 := HK5.out.c1
      have hd1 := HDb.out.1
      have hd2 := HDb.out.2.1
      have ht1 := HTb.out.1
      have ht2 := HTb.out.2
      by_cases hc : 4294967295 - d.2 + 1 < (rs.length : Int)
      · have HRR := Lib.hid (FE.out (.inl hc))
        have hc' : decide (4294967295 - d.2 + 1 < (rs.length : Int)) = true := decide_eq_true hc
        clear ht1 ht2
        go_wp2_with fail
        go_ret2
        rw [HRR.out]
        exact ⟨_, rfl, ON.nil _ _ _, HB5.out⟩
      · have hc' : decide (4294967295 - d.2 + 1 < (rs.length : Int)) = false := decide_eq_false hc
        go_wp2_with fail
        refine (HLt.out _ HX5.out).mono ?_
        rintro e w6 ⟨rfl, hb⟩
        have HB6 := bel_tr HB5 hb
        have HX6 := Lib.hid (HX5.out.keep hb)
        have HK6 := Lib.hid (HK5.out.keep hb)
        have HR6 := Lib.hid (HR5.out.keep hb (Nat.le_refl _))
        have HV6 := Lib.hid (HV5.out.keep hb)
        clear hb HB5 HX5 HK5 HR5 HV5 c0 c1
        by_cases ht : 4611686018427387904 - TS < (rs.length : Int)
        · have HRR := Lib.hid (FE.out (.inr ht))
          have ht' : decide (4611686018427387904 - TS < (rs.length : Int)) = true := decide_eq_true ht
          go_wp2_with fail
          go_ret2
          rw [HRR.out]
          exact ⟨_, rfl, ON.nil _ _ _, HB6.out⟩
        · have ht' : decide (4611686018427387904 - TS < (rs.length : Int)) = false := decide_eq_false ht
          have hnn : ¬ (4294967295 - d.2 + 1 < (rs.length : Int) ∨ 4611686018427387904 - TS < (rs.length : Int)) := by omega
          replace FB := Lib.hid (FB.out hnn)
          replace FF := Lib.hid (FF.out hnn)
          have HTc : Hid (TS + (rs.length : Int) ≤ 4611686018427387904 ∧ d.2 + (rs.length : Int) ≤ 4294967296) := by show _ ∧ _; omega
          clear hnn FE
          go_wp2_with fail
          go_loopw [14, 15, 16] (fun v i _ wr => ∃ p : Nat, m ≤ p ∧ p ≤ m + n ∧ i = .int .i64 (p : Int) ∧ Hid (Below w6.heap.size w6 wr) ∧ Hid (ON wr w6.heap.size EN v ((KS.take (p - m)).foldl stepR []))) (fun _ i _ _ => m + n - (intOf i).toNat)
          case atStart => exact ⟨m, Nat.le_refl _, by omega, rfl, Below.refl _ _, by rw [Nat.sub_self]; exact ON.nil _ _ _⟩
          case round =>
            obtain ⟨p, hp1, hp2, rfl, HZ, HO⟩ := hrel
            by_cases hlt : p < m + n
            · have hi0 : (p : Int) < (m : Int) + (n : Int) := by omega
              obtain ⟨hk1, hk2, hk3⟩ := HKg.out (p - m) (by omega)
              simp only [show m + (p - m) = p by omega] at hk2 hk3
              obtain ⟨b2, o2, rfl, hna⟩ := na_of (HV6.out.keep HZ.out) p hk2
              have hx0 := ixS b2 o2 V.length c4 p (p : Int) rfl hk2
              have hpv : (p : Int) < (V.length : Int) := by omega
              have HSt : Hid ((KS.take (p + 1 - m)).foldl stepR [] = stepR ((KS.take (p - m)).foldl stepR []) (killN V[p])) := by
                show _ = _
                rw [show p + 1 - m = p - m + 1 by omega, step_take hk1, hk3]
              have HPl : Hid (((KS.take (p - m)).foldl stepR []).length ≤ 20000) := by
                have h1 := step_fold_len (KS.take (p - m))
                rw [List.length_take] at h1
                have := HLn.out
                have := HKl.out
                show _ ≤ _
                omega
              obtain ⟨q, hq⟩ : ∃ q, q = V[p] := ⟨_, rfl⟩
              rw [← hq] at hna HSt
              clear hq hk1 hk3
              generalize (KS.take (p - m)).foldl stepR [] = O at *
              obtain ⟨aO, cO, rfl, hrO, hnO, -⟩ := ON.row HO.out
              have HRO := Lib.hid hrO
              have HNO : Hid (aO = none → cO = 0) := fun h => (hnO h).1
              clear hrO hnO
              obtain ⟨n0, n1, n2, n3, n4, n5⟩ := hna
              obtain ⟨⟨q1, q2⟩, ⟨q3, q4⟩, q5, q6⟩ := q
              go_upto_region 21 with fail
              obtain ⟨z, hz⟩ : ∃ z : Nt, z = killN ((q1, q2), (q3, q4), q5, q6) := ⟨_, rfl⟩
              rw [← hz] at HSt
              have hb7 := bel_box wr (.cells (nc (killN ((q1, q2), (q3, q4), q5, q6))) 53)
              have HK7 : Hid (Nb (wr.alloc (.cells (nc (killN ((q1, q2), (q3, q4), q5, q6))) 53)) wr.heap.size (killN ((q1, q2), (q3, q4), q5, q6))) := Nb.new wr _
              have HZ7 := Lib.hid (HZ.out.trans (hb7.mono HZ.out.size))
              have HRO7 := Lib.hid (HRO.out.keep hb7)
              have HO7 := Lib.hid (HO.out.below hb7)
              clear hb7 n0 n1 n2 n3 n4 n5 HO HZ HRO
              have hw7 : (wr.alloc (.cells (nc (killN ((q1, q2), (q3, q4), q5, q6))) 53)) = (wr.alloc (.cells #[.int .i64 q1, .int .i64 q2, .int .i64 q3, .int .i64 q4, .int .i64 q5, .int .i32 0] 53)) := rfl
              rw [hw7] at HK7 HZ7 HRO7 HO7
              clear hw7
              generalize (wr.alloc (.cells #[.int .i64 q1, .int .i64 q2, .int .i64 q3, .int .i64 q4, .int .i64 q5, .int .i32 0] 53)) = w7 at *
              generalize wr.heap.size = g7 at *
              obtain ⟨k0, k1, k2, k3, k4, k5⟩ := HK7.out
              have hb8 := bel_box w7 (.cells (nc (killN ((q1, q2), (q3, q4), q5, q6))) 53)
              have HLit : Hid (RowN (w7.alloc (.cells (nc (killN ((q1, q2), (q3, q4), q5, q6))) 53)) (some ⟨w7.heap.size, 0, none⟩) [z]) := by rw [hz]; exact RowN.lit w7 [killN ((q1, q2), (q3, q4), q5, q6)] _ _ _ rfl
              have HZ8 := Lib.hid (HZ7.out.trans (hb8.mono HZ7.out.size))
              have HRO8 := Lib.hid (HRO7.out.keep hb8)
              have HJ := Lib.hid (fun w h1 h2 => join_ref O [z] aO (some ⟨w7.heap.size, 0, none⟩) cO 1 w h1 HNO.out h2 (by have := HPl.out; omega) (by simp))
              rw [joinR_one, ← HSt.out] at HJ
              clear hb8 HZ7 HRO7 HO7 HK7 hz
              go_wp2_with fail
              refine (HJ.out _ HRO8.out HLit.out).mono ?_
              rintro e w9 ⟨v9, rfl, ho, hb⟩
              have HZ9 := Lib.hid (HZ8.out.trans (hb.mono HZ8.out.size))
              have HO9 : Hid (ON w9 w6.heap.size EN v9 ((KS.take (p + 1 - m)).foldl stepR [])) := ho.mono fun k hk => Nat.le_trans HZ8.out.size (ho.lt k hk).1
              clear ho hb HZ8 HRO8 HLit HJ k0 k1 k2 k3 k4 k5
              go_wp2_with fail
              go_roundw
              case rel => exact ⟨p + 1, by omega, by omega, by go_num, HZ9, HO9⟩
              case measure => simp [intOf]; omega
            · have hend : ¬ ((p : Int) < (m : Int) + (n : Int)) := by omega
              rw [show p - m = KS.length by have := HKl.out; omega, List.take_length] at HO
              clear hlt hp1 hp2
              obtain ⟨aO, cO, rfl, -⟩ := ON.row HO.out
              have HO7 := Lib.hid (HO.out.below (bel_box wr (.cells #[.int .i64 0, .int .i64 0] 25)))
              have HP7 : Hid (Un.Bd (wr.alloc (.cells #[.int .i64 0, .int .i64 0] 25)) wr.heap.size (0, 0)) := Un.bd_new wr (0, 0)
              have HZ7 : Hid (Below w6.heap.size w6 (wr.alloc (.cells #[.int .i64 0, .int .i64 0] 25))) := HZ.out.trans ((bel_box wr _).mono HZ.out.size)
              have HG7 : Hid (w6.heap.size ≤ wr.heap.size) := HZ.out.size
              have HOg : Hid (∀ x, (Value.slice aO (KS.foldl stepR []).length cO).ownBlock = some x → x < wr.heap.size) := fun x hx => (HO.out.lt x hx).2
              clear HZ HO HKg
              go_upto_if 102 with fail
              generalize (wr.alloc (.cells #[.int .i64 0, .int .i64 0] 25)) = w7 at *
              generalize wr.heap.size = g7 at *
              go_cut [108] from 102 to 108 (fun _ wx => Hid (Un.Bd wx g7 PR) ∧ Hid (w7.grownBy wx (some g7)))
              case first =>
                by_cases h0 : m = 0
                · have HPr : Hid (PR = (0, 0)) := HPar.out.1 h0
                  have hm0 : ¬ ((0 : Int) < (m : Int)) := by omega
                  have hm0' : decide ((0 : Int) < (m : Int)) = false := decide_eq_false hm0
                  have HG : Hid (w7.grownBy w7 (some g7)) := World.grownBy.refl _ _
                  clear h0
                  go_wp2_with fail
                  go_meet
                  exact ⟨by rw [HPr.out]; exact HP7.out, HG.out⟩
                · obtain ⟨k, hk⟩ : ∃ k, m = k + 1 := ⟨m - 1, by omega⟩
                  obtain ⟨hkV, hPr⟩ := HPar.out.2 k hk
                  have HPr := Lib.hid hPr
                  have hm0 : (0 : Int) < (m : Int) := by omega
                  have hm0' : decide ((0 : Int) < (m : Int)) = true := decide_eq_true hm0
                  have HV7 : Hid (RowN w7 a4 V) := HV6.out.keep HZ7.out
                  obtain ⟨b2, o2, rfl, hna⟩ := na_of HV7.out k hkV
                  have hx0 := ixS b2 o2 V.length c4 k ((m : Int) - 1) (by omega) hkV
                  obtain ⟨n0, n1, n2, n3, n4, n5⟩ := hna
                  rw [← HPr.out] at n0 n1
                  have d0 := HP7.out.c0
                  have d1 := HP7.out.c1
                  have f0 := bd_free HP7.out 0
                  have f1 := bd_free HP7.out 1
                  have HS := Lib.hid (bd_set HP7.out PR)
                  have HG := Lib.hid (gb_two w7 g7 (.int .i64 PR.1) (.int .i64 PR.2))
                  clear h0 hk hPr HPr n2 n3 n4 n5
                  obtain ⟨p1, p2⟩ := PR
                  go_wp2_with fail
                  go_meet
                  exact ⟨HS.out, HG.out⟩
              case rest =>
                obtain ⟨hPr, hGr⟩ := hcut
                have HZ8 := Lib.hid (HZ7.out.grown hGr.out HZ7.out.size (fun x hx => by cases hx; exact HG7.out))
                have HO8 := Lib.hid (HO7.out.keep hGr.out (by
                  rcases hown : (Value.slice aO (KS.foldl stepR []).length cO).ownBlock with _ | x
                  · exact .inl rfl
                  · right
                    intro e
                    cases e
                    have := HOg.out _ hown
                    omega))
                have HOn8 : Hid (∀ x, (Value.slice aO (KS.foldl stepR []).length cO).ownBlock = some x → x ≠ g7) := fun x hx => by have := HOg.out x hx; omega
                have HP8 := Lib.hid hPr.out
                have HCl : Hid (CS.length = rs.length) := by show _ = _; rw [HCs.out, chain_len]
                have HCg : Hid (∀ k (hk : k < rs.length), ∃ h : k < CS.length, CS[k] = ((d.1, d.2 + (k : Int)), (if k = 0 then PR else (d.1, d.2 + (k : Int) - 1)), TS + 1 + (k : Int), rs[k])) := fun k hk => by
                  have h := chain_get rs d PR (TS + 1) k hk
                  refine ⟨by rw [HCl.out]; exact hk, ?_⟩
                  rw [← h]
                  simp only [HCs.out]
                have HKl2 : Hid ((KS.foldl stepR []).length ≤ 10000) := by
                  have h1 := step_fold_len KS
                  have := HKl.out
                  have := HLn.out
                  show _ ≤ _
                  omega
                clear hPr hGr HO7 HP7 HZ7 HOg HPar HCs HTb
                generalize KS.foldl stepR [] = K0 at *
                go_wp2_with fail
                go_loopw [14, 18, 19] (fun v i _ wr => ∃ k : Nat, k ≤ rs.length ∧ i = .int .i64 (k : Int) ∧ Hid (Below w6.heap.size w6 wr) ∧ Hid (Un.Bd wr g7 (if k = 0 then PR else (d.1, d.2 + (k : Int) - 1))) ∧ Hid (∀ j : Nat, j < k → atS l (d.1, d.2 + (j : Int)) = none) ∧ Hid (ON wr w6.heap.size EN v ((CS.take k).foldl stepR K0)) ∧ Hid (∀ x, v.ownBlock = some x → x ≠ g7)) (fun _ i _ _ => rs.length - (intOf i).toNat)
                case atStart => exact ⟨0, Nat.zero_le _, rfl, HZ8, HP8, fun j hj => by omega, HO8, HOn8⟩
                case round =>
                  clear HZ8 HP8 HO8 HOn8
                  obtain ⟨k, hk, rfl, HZ, HP, HNw, HO, HOn⟩ := hrel
                  by_cases hlt : k < rs.length
                  · have hi0 : (k : Int) < (rs.length : Int) := by omega
                    obtain ⟨hck, hcg⟩ := HCg.out k hlt
                    have HSt : Hid ((CS.take (k + 1)).foldl stepR K0 = stepR ((CS.take k).foldl stepR K0) CS[k]) := foldl_take _ _ _ _ hck
                    have HPl : Hid (((CS.take k).foldl stepR K0).length ≤ 30000) := by
                      have h1 := joinR_len (CS.take k) K0
                      rw [List.length_take] at h1
                      have := HKl2.out
                      have := HCl.out
                      have := HLn.out
                      show (joinR K0 (CS.take k)).length ≤ _
                      omega
                    have HX8 := Lib.hid (HX6.out.keep HZ.out)
                    have HD8 := Lib.hid (HK6.out.keep HZ.out)
                    obtain ⟨b3, o3, rfl, hcr⟩ := rowI_at (HR6.out.keep HZ.out (Nat.le_refl _)) k hlt
                    obtain ⟨x, hx⟩ : ∃ x, x = CS[k] := ⟨_, rfl⟩
                    have HXe := Lib.hid (hx.trans hcg)
                    rw [← hx] at HSt
                    clear hx hcg hck
                    generalize (CS.take k).foldl stepR K0 = O at *
                    obtain ⟨aO2, cO2, rfl, hrO, hnO, -⟩ := ON.row HO.out
                    have HRO := Lib.hid hrO
                    have HNO : Hid (aO2 = none → cO2 = 0) := fun h => (hnO h).1
                    have HCr := Lib.hid hcr
                    clear hrO hnO hcr
                    go_upto_region 28 with fail
                    go_cut [19] from 115 to 132 (fun s wx => ∃ g, s = .pointer (some ⟨g, 0, none⟩) ∧ Hid (Nb wx g x) ∧ Hid (Below wr.heap.size wr wx))
                    case first =>
                      have hdk := HTc.out.2
                      have htk := HTc.out.1
                      have hdk2 : d.2 + (k : Int) ≤ 4294967295 := by omega
                      have htk2 : TS + 1 + (k : Int) ≤ 4611686018427387904 := by omega
                      have htk3 : TS + 1 ≤ 4611686018427387904 := by omega
                      have HPe := Lib.hid HXe.out
                      clear HXe hdk htk
                      generalize (if k = 0 then PR else (d.1, d.2 + (k : Int) - 1)) = P at *
                      generalize rs[k] = r at *
                      have hd := (Below.refl wr.heap.size wr).drew
                      have HQ : Hid (Dx w.heap.size g7 b3 (o3 + k) d P r wr.drew) := Dx.keep ⟨HD8.out, HP.out, HCr.out⟩ hd
                      have HXd := Lib.hid (HX8.out.keep hd)
                      have HBd := Lib.hid hd
                      clear hd HP HD8 HX8 HCr HRO HO HOn HZ
                      obtain ⟨d1, d2⟩ := d
                      obtain ⟨p1, p2⟩ := P
                      go_wp2_with fail
                      refine Sch.wp_region_tn (Dx w.heap.size g7 b3 (o3 + k) (d1, d2) (p1, p2) r) (.val 0 (.val 1 (.val 2 (.val 3 (.val 4 (.val 5 (.val 6 (.val 7 (.val 8 (.val 11 (.val 13 (.val 14 (.val 15 (.val 16 (.two 9 (.val 10 (.val 12 (.val 17 (.one 18 (.one 19 .done))))) 18 (.one 9 (.val 10 (.val 12 (.val 17 (.one 19 .done)))))))))))))))))))) (by kernel_rfl) (by kernel_rfl) HQ.out ?_
                      repeat (first
                        | (refine Sch.tn_q rfl rfl rfl (fun K hK => ?_); go_big_quiet_op; (first | refine hK _ ?_ | refine ⟨_, fun _ _ => rfl, hK _ ?_⟩); clear hK K)
                        | (refine Sch.tn_chk _ _ _ rfl rfl rfl rfl rfl ?_; simp only [Act.put, List.setIfInBounds_toArray, List.set_cons_zero, List.set_cons_succ])
                        | (refine Sch.tn_load _ _ _ _ _ rfl rfl rfl rfl (by first | exact Dx.l0 | exact Dx.l1 | exact Dx.lp | exact Dx.lr) rfl ?_; simp only [Act.put, List.setIfInBounds_toArray, List.set_cons_zero, List.set_cons_succ]))
                      generalize wr.drew = wA at *
                      refine Sch.tn_two ?_ ?_
                      · skip
                        refine Sch.tn_e rfl rfl (fun K hK => ?_)
                        go_wp2_with fail
                        refine (HLt.out _ HXd.out).mono ?_
                        rintro e wB ⟨rfl, hb⟩
                        replace HQ := Lib.hid (HQ.out.keep hb)
                        replace HBd := Lib.hid (HBd.out.trans (hb.mono HBd.out.size))
                        clear hb
                        refine hK _ _ HQ.out ?_
                        clear hK K
                        repeat (first
                          | (refine Sch.tn_q rfl rfl rfl (fun K hK => ?_); go_big_quiet_op; (first | refine hK _ ?_ | refine ⟨_, fun _ _ => rfl, hK _ ?_⟩); clear hK K)
                          | (refine Sch.tn_chk _ _ _ rfl rfl rfl rfl rfl ?_; simp only [Act.put, List.setIfInBounds_toArray, List.set_cons_zero, List.set_cons_succ])
                          | (refine Sch.tn_load _ _ _ _ _ rfl rfl rfl rfl (by first | exact Dx.l0 | exact Dx.l1 | exact Dx.lp | exact Dx.lr) rfl ?_; simp only [Act.put, List.setIfInBounds_toArray, List.set_cons_zero, List.set_cons_succ]))
                        refine Sch.tn_e rfl rfl (fun K hK => ?_)
                        go_wp2_with fail
                        have hbA := bel_box wB (.cells #[.int .i64 0, .int .i64 0, .int .i64 0, .int .i64 0, .int .i64 0, .int .i32 0] 53)
                        refine hK _ _ (HQ.out.keep hbA) ?_
                        clear hK K
                        clear hbA
                        refine Sch.tn_e rfl rfl (fun K hK => ?_)
                        go_wp2_with fail
                        have hbN := bel_box wB (.cells (nc ((d1, d2 + (k : Int)), (p1, p2), TS + 1 + (k : Int), r)) 53)
                        have HNb : Hid (Nb (wB.alloc (.cells (nc ((d1, d2 + (k : Int)), (p1, p2), TS + 1 + (k : Int), r)) 53)) wB.heap.size x) := by rw [HPe.out]; exact Nb.new wB _
                        replace HBd := Lib.hid (HBd.out.trans (hbN.mono HBd.out.size))
                        refine hK _ (wB.alloc (.cells (nc ((d1, d2 + (k : Int)), (p1, p2), TS + 1 + (k : Int), r)) 53)) (HQ.out.keep hbN) ?_
                        clear hK K hbN
                        refine Sch.tn_n ?_
                        go_wp2_with fail
                        go_meet
                        exact ⟨_, rfl, HNb.out, HBd.out⟩
                      · skip
                        refine Sch.tn_e rfl rfl (fun K hK => ?_)
                        go_wp2_with fail
                        have hbA := bel_box wA (.cells #[.int .i64 0, .int .i64 0, .int .i64 0, .int .i64 0, .int .i64 0, .int .i32 0] 53)
                        have HZb := Lib.hid (Zb.new wA)
                        have HX9 := Lib.hid (HXd.out.keep hbA)
                        have HLo : Hid (w.heap.size < wA.heap.size ∧ g7 < wA.heap.size ∧ b3 < wA.heap.size) := ⟨HQ.out.1.lt, HQ.out.2.1.lt, lt_of_cell HQ.out.2.2⟩
                        have HGs : Hid (wr.heap.size ≤ wA.heap.size) := HBd.out.size
                        replace HBd := Lib.hid (HBd.out.trans (hbA.mono HBd.out.size))
                        replace HQ := Lib.hid (HQ.out.keep hbA)
                        clear hbA
                        refine hK _ _ HQ.out ?_
                        clear hK K
                        generalize (wA.alloc (.cells #[.int .i64 0, .int .i64 0, .int .i64 0, .int .i64 0, .int .i64 0, .int .i32 0] 53)) = wB at *
                        generalize wA.heap.size = gB at *
                        refine Sch.tn_e rfl rfl (fun K hK => ?_)
                        go_wp2_with fail
                        refine (HLt.out _ HX9.out).mono ?_
                        rintro e wC ⟨rfl, hb⟩
                        replace HQ := Lib.hid (HQ.out.keep hb)
                        replace HBd := Lib.hid (HBd.out.trans (hb.mono HBd.out.size))
                        replace HZb := Lib.hid (HZb.out.keep hb)
                        clear hb HX9
                        refine hK _ _ HQ.out ?_
                        clear hK K
                        repeat (first
                          | (refine Sch.tn_q rfl rfl rfl (fun K hK => ?_); go_big_quiet_op; (first | refine hK _ ?_ | refine ⟨_, fun _ _ => rfl, hK _ ?_⟩); clear hK K)
                          | (refine Sch.tn_chk _ _ _ rfl rfl rfl rfl rfl ?_; simp only [Act.put, List.setIfInBounds_toArray, List.set_cons_zero, List.set_cons_succ])
                          | (refine Sch.tn_load _ _ _ _ _ rfl rfl rfl rfl (by first | exact Dx.l0 | exact Dx.l1 | exact Dx.lp | exact Dx.lr) rfl ?_; simp only [Act.put, List.setIfInBounds_toArray, List.set_cons_zero, List.set_cons_succ]))
                        obtain ⟨⟨z0, z1, z2, z3, z4, z5⟩, hf⟩ := HZb.out
                        have f0 := hf 0
                        have f1 := hf 1
                        have f2 := hf 2
                        have f3 := hf 3
                        have f4 := hf 4
                        have f5 := hf 5
                        clear hf
                        refine Sch.tn_e rfl rfl (fun K hK => ?_)
                        go_wp2_with fail
                        have HNb : Hid (Nb (Nd.putN wC gB ((d1, d2 + (k : Int)), (p1, p2), TS + 1 + (k : Int), r)) gB x) := by rw [HPe.out]; exact nb_putN HZb.out.1 _
                        replace HBd := Lib.hid (Nd.putN_below HBd.out HGs.out ((d1, d2 + (k : Int)), (p1, p2), TS + 1 + (k : Int), r))
                        refine hK _ (Nd.putN wC gB ((d1, d2 + (k : Int)), (p1, p2), TS + 1 + (k : Int), r)) (HQ.out.put HLo.out.1 HLo.out.2.1 HLo.out.2.2 _) ?_
                        clear hK K z0 z1 z2 z3 z4 z5 f0 f1 f2 f3 f4 f5
                        refine Sch.tn_n ?_
                        go_wp2_with fail
                        go_meet
                        exact ⟨_, rfl, HNb.out, HBd.out⟩
                    case rest =>
                      obtain ⟨g, rfl, hNb, hBw⟩ := hcut
                      have HZ9 := Lib.hid (HZ.out.trans (hBw.out.mono HZ.out.size))
                      have HP9 := Lib.hid (HP.out.keep hBw.out)
                      have HX9 := Lib.hid (HX8.out.keep hBw.out)
                      have HO9 := Lib.hid (HO.out.below hBw.out)
                      have HFx := Lib.hid (HFi.out x.1)
                      have HIxx := Lib.hid (HIx.out x.1)
                      have HXd : Hid (x.1 = (d.1, d.2 + (k : Int))) := by show _ = _; rw [HXe.out]
                      have HNb9 := hNb
                      clear hNb hBw HZ HP HX8 HD8 HCr HRO HO HXe
                      generalize hir : idxS l x.1 = ir at *
                      clear hir
                      obtain ⟨k0, k1, k2, k3, k4, k5⟩ := HNb9.out
                      go_wp2_with fail
                      refine (HFx.out _ HX9.out).mono ?_
                      rintro e wF ⟨rfl, hb⟩
                      have HZf := Lib.hid (HZ9.out.trans (hb.mono HZ9.out.size))
                      have HPf := Lib.hid (HP9.out.keep hb)
                      have HOf := Lib.hid (HO9.out.below hb)
                      have HNbf := Lib.hid (HNb9.out.keep hb)
                      clear hb HZ9 HP9 HX9 HO9 HNb9 HFx k0 k1 k2 k3 k4 k5
                      rcases HIxx.out with ⟨rfl, hat⟩ | ⟨k2, hk2, rfl, hat⟩
                      · have HAt : Hid (atS l (d.1, d.2 + (k : Int)) = none) := by show _ = _; rw [← HXd.out]; exact hat
                        have hge : decide ((-1 : Int) ≥ 0) = false := rfl
                        have HNw2 : Hid (∀ j : Nat, j < k + 1 → atS l (d.1, d.2 + (j : Int)) = none) := fun j hj => by
                          by_cases e : j = k
                          · subst e; exact HAt.out
                          · exact HNw.out j (by omega)
                        clear hat HNw HIxx HAt
                        obtain ⟨k0, k1, k2, k3, k4, k5⟩ := HNbf.out
                        have hbx := bel_box wF (.cells (nc x) 53)
                        have HLit : Hid (RowN (wF.alloc (.cells (nc x) 53)) (some ⟨wF.heap.size, 0, none⟩) [x]) := RowN.lit wF [x] _ _ _ rfl
                        have HRO8 : Hid (RowN (wF.alloc (.cells (nc x) 53)) aO2 O) := HOf.out.r.1.keep hbx
                        have HJ := Lib.hid (fun w h1 h2 => join_ref O [x] aO2 (some ⟨wF.heap.size, 0, none⟩) cO2 1 w h1 HNO.out h2 (by have := HPl.out; omega) (by simp))
                        rw [joinR_one, ← HSt.out] at HJ
                        have HZj := Lib.hid (HZf.out.trans (hbx.mono HZf.out.size))
                        have HPj := Lib.hid (HPf.out.keep hbx)
                        have HNbj := Lib.hid (HNbf.out.keep hbx)
                        clear hbx HOf
                        go_wp2_with fail
                        refine (HJ.out _ HRO8.out HLit.out).mono ?_
                        rintro e wJ ⟨vJ, rfl, ho, hb⟩
                        have HZk := Lib.hid (HZj.out.trans (hb.mono HZj.out.size))
                        have HPk := Lib.hid (HPj.out.keep hb)
                        have HNbk := Lib.hid (HNbj.out.keep hb)
                        have HOl := Lib.hid ho.lt
                        have HOk : Hid (ON wJ w6.heap.size EN vJ ((CS.take (k + 1)).foldl stepR K0)) := ho.mono fun x hx => Nat.le_trans HZj.out.size (ho.lt x hx).1
                        have HGl : Hid (g7 < (wF.alloc (.cells (nc x) 53)).heap.size) := HPj.out.lt
                        clear ho hb HZf HPf HNbf HZj HPj HNbj HRO8 HLit HJ k0 k1 k2 k3 k4 k5
                        have HOnk : Hid (∀ x, vJ.ownBlock = some x → x ≠ g7) := fun x hx => by
                          have h1 := (HOl.out x hx).1
                          have h2 := HGl.out
                          omega
                        clear HOl HGl
                        obtain ⟨k0, k1, k2, k3, k4, k5⟩ := HNbk.out
                        have d0 := HPk.out.c0
                        have d1 := HPk.out.c1
                        have f0 := bd_free HPk.out 0
                        have f1 := bd_free HPk.out 1
                        have HS := Lib.hid (bd_set HPk.out x.1)
                        have HG := Lib.hid (gb_two wJ g7 (.int .i64 x.1.1) (.int .i64 x.1.2))
                        have HZs := Lib.hid (Un.run_storeD_below HZk.out HG7.out x.1)
                        have HOs := Lib.hid (HOk.out.keep HG.out (by
                          rcases hown : vJ.ownBlock with _ | y
                          · exact .inl rfl
                          · right
                            intro e
                            cases e
                            exact HOnk.out _ hown rfl))
                        have HPs : Hid (Un.Bd ((wJ.setCell ⟨g7, 0, none⟩ (.int .i64 x.1.1)).setCell ⟨g7, 1, none⟩ (.int .i64 x.1.2)) g7 (if k + 1 = 0 then PR else (d.1, d.2 + ((k + 1 : Nat) : Int) - 1))) := by
                          have h1 := HS.out
                          rw [if_neg (by omega), show (d.1, d.2 + ((k + 1 : Nat) : Int) - 1) = x.1 by rw [HXd.out]; refine Prod.ext rfl ?_; show d.2 + ((k + 1 : Nat) : Int) - 1 = d.2 + (k : Int); push_cast; omega]
                          exact h1
                        clear HS HG HZk HPk HOk HNbk HXd HSt
                        go_wp2_with fail
                        clear k0 k1 k2 k3 k4 k5 d0 d1 f0 f1
                        generalize (wJ.setCell ⟨g7, 0, none⟩ (.int .i64 x.1.1)).setCell ⟨g7, 1, none⟩ (.int .i64 x.1.2) = wS at *
                        go_roundw
                        case rel => exact ⟨k + 1, by omega, by go_num, HZs, HPs, HNw2, HOs, HOnk⟩
                        case measure => simp [intOf]; omega
                      · have HRR := Lib.hid (FB.out k hlt (by rw [← HXd.out, hat]; rfl))
                        have hge : (0 : Int) ≤ (k2 : Int) := by omega
                        have hge' : decide ((k2 : Int) ≥ 0) = true := decide_eq_true hge
                        have HBf := bel_tr HB6 HZf.out
                        clear hat
                        go_wp2_with fail
                        go_ret2
                        rw [HRR.out]
                        exact ⟨_, rfl, ON.nil _ _ _, HBf.out⟩
                  · obtain rfl : k = rs.length := by omega
                    have hend : ¬ (rs.length : Int) < (rs.length : Int) := by omega
                    have HRR := Lib.hid (FF.out HNw.out)
                    rw [← HCl.out, List.take_length] at HO
                    have HBf := bel_tr HB6 HZ.out
                    have HOf := Lib.hid (HO.out.mono fun x hx => Nat.le_trans HB6.out.size (HO.out.lt x hx).1)
                    clear HO
                    go_wp2_with fail
                    go_ret2
                    rw [HRR.out]
                    exact ⟨_, rfl, HOf.out, HBf.out⟩
end Go.Proofs.YtkcbekebleodaaaGreat.Ed
end

/-
  Layer 15: package edit's chains of new nodes, and the nodes with some dots.
-/
section
namespace Go.Proofs.YtkcbekebleodaaaGreat.Ed
set_option linter.unusedVariables false
open Go.RowKit V Go.Shelf Go.Sort D Nd Qs Wk Ix Jn Fo
attribute [local irreducible] Sch.heldN Sch.stepV Sch.stepE

theorem chain_take {d p : Dt} {t : Int} {rs : List Int} {k : Nat} (hk : k < rs.length) : (chainN d p t rs).take (k + 1) = (chainN d p t rs).take k ++ [((d.1, d.2 + (k : Int)), (if k = 0 then p else (d.1, d.2 + (k : Int) - 1)), t + (k : Int), rs[k])] := by
  have h : k < (chainN d p t rs).length := by rw [chain_len]; exact hk
  rw [List.take_succ_eq_append_getElem h, chain_get rs d p t k hk]
set_option maxRecDepth 100000 in
set_option maxHeartbeats 8000000 in
theorem chain_any (d p : Dt) (t : Int) (rs : List Int) (b : Option Addr) (e : Nat) (w : World) (hr : G.RowI .i32 w b rs) (hrl : rs.length ≤ 10000)
    (hd1 : 1 ≤ d.2) (hd2 : d.2 + (rs.length : Int) ≤ 4294967296) (ht1 : 0 ≤ t) (ht2 : t + (rs.length : Int) ≤ 4611686018427387904) :
    Calls Tryz.prog 48 #[dv d, dv p, .int .i64 t, .slice b rs.length e] w fun e w' => ∃ v, e = .returned v ∧ ON w' w.heap.size EN v (chainN d p (t + 1) rs) ∧ Below w.heap.size w w' := by
  have hb1 := bel_box w (.cells #[.int .i64 d.1, .int .i64 d.2] 25)
  have hb2 := bel_box (w.alloc (.cells #[.int .i64 d.1, .int .i64 d.2] 25)) (.cells #[.int .i64 p.1, .int .i64 p.2] 25)
  have HB : Hid (Below w.heap.size w ((w.alloc (.cells #[.int .i64 d.1, .int .i64 d.2] 25)).alloc (.cells #[.int .i64 p.1, .int .i64 p.2] 25))) := (bel_tr (Lib.hid hb1) hb2).out
  have HK : Hid (Un.Bd ((w.alloc (.cells #[.int .i64 d.1, .int .i64 d.2] 25)).alloc (.cells #[.int .i64 p.1, .int .i64 p.2] 25)) w.heap.size d) := (Un.bd_new w d).keep hb2
  have HP : Hid (Un.Bd ((w.alloc (.cells #[.int .i64 d.1, .int .i64 d.2] 25)).alloc (.cells #[.int .i64 p.1, .int .i64 p.2] 25)) (w.heap.size + 1) p) := by
    have h := Un.bd_new (w.alloc (.cells #[.int .i64 d.1, .int .i64 d.2] 25)) p
    rwa [show (w.alloc (.cells #[.int .i64 d.1, .int .i64 d.2] 25)).heap.size = w.heap.size + 1 by simp] at h
  have HR := Lib.hid hr
  have HS : Hid (((w.alloc (.cells #[.int .i64 d.1, .int .i64 d.2] 25)).alloc (.cells #[.int .i64 p.1, .int .i64 p.2] 25)).heap.size = w.heap.size + 2) := by show _ = _; simp
  have HTk : Hid (∀ k (hk : k < rs.length), (chainN d p (t + 1) rs).take (k + 1) = (chainN d p (t + 1) rs).take k ++ [((d.1, d.2 + (k : Int)), (if k = 0 then p else (d.1, d.2 + (k : Int) - 1)), t + 1 + (k : Int), rs[k])]) := fun k hk => chain_take hk
  have HCl : Hid ((chainN d p (t + 1) rs).length = rs.length) := chain_len _ _ _ _
  have HRl := Lib.hid hrl
  have HD2 := Lib.hid hd2
  have HT2 := Lib.hid ht2
  have hri : (rs.length : Int) ≤ 10000 := by omega
  have hr0 : (0 : Int) ≤ (rs.length : Int) := by omega
  clear hr hrl hb1 hb2 hd2 ht2
  obtain ⟨d1, d2⟩ := d
  obtain ⟨p1, p2⟩ := p
  simp only at hd1
  generalize chainN (d1, d2) (p1, p2) (t + 1) rs = C at *
  go_enter Tryz.func48, Tryz.ntmps48
  go_upto_region 1 with fail
  generalize (w.alloc (.cells #[.int .i64 d1, .int .i64 d2] 25)).alloc (.cells #[.int .i64 p1, .int .i64 p2] 25) = w1 at *
  obtain ⟨w2, hmk, ho2, hb2⟩ := run_mkS w1 rs.length (by have := HRl.out; omega)
  have HO2 := Lib.hid ho2
  have HB2 := bel_tr HB hb2
  have HK2 := Lib.hid (HK.out.keep hb2)
  have HP2 := Lib.hid (HP.out.keep hb2)
  have HZ2 : Hid (Below (w.heap.size + 1) w1 w2) := hb2.mono (by have := HS.out; omega)
  have HG2 : Hid (w.heap.size + 1 < w1.heap.size) := by show _ < _; rw [HS.out]; omega
  have HW2 : Hid (w1.heap.size ≤ w2.heap.size) := hb2.size
  clear ho2 hb2 HB HP HK2 HS
  go_wp2_with fail
  go_loopw [9, 10, 11, 17] (fun v _ _ i wr => ∃ k : Nat, k ≤ rs.length ∧ i = .int .i64 (k : Int) ∧ Hid (Below w.heap.size w wr) ∧ Hid (Below (w.heap.size + 1) w1 wr) ∧ Hid (w1.heap.size ≤ wr.heap.size) ∧ Hid (Un.Bd wr (w.heap.size + 1) (if k = 0 then (p1, p2) else (d1, d2 + (k : Int) - 1))) ∧ Hid (ON wr w1.heap.size EN v (C.take k))) (fun _ _ _ i _ => rs.length - (intOf i).toNat)
  case atStart => exact ⟨0, Nat.zero_le _, rfl, HB2, HZ2, HW2, HP2, HO2⟩
  case round =>
    clear HB2 HP2 HO2 HZ2
    obtain ⟨k, hk, rfl, HB, HZ, HW, HP, HO⟩ := hrel
    by_cases hlt : k < rs.length
    · have hi0 : (k : Int) < (rs.length : Int) := by omega
      have HTn := Lib.hid (HTk.out k hlt)
      have HKr : Hid (Un.Bd wr w.heap.size (d1, d2)) := (HZ.out.block w.heap.size (Nat.lt_succ_self _)).trans HK.out
      obtain ⟨b3, o3, rfl, hcr⟩ := rowI_at (HR.out.keep HB.out (Nat.le_refl _)) k hlt
      have HPl : Hid ((C.take k).length ≤ 10000) := by have := HRl.out; show _ ≤ _; rw [List.length_take]; omega
      generalize C.take k = O at *
      generalize rs[k] = r at *
      have hdk : d2 + (k : Int) ≤ 4294967296 := by have := HD2.out; omega
      have htk : t + 1 + (k : Int) ≤ 4611686018427387904 := by have := HT2.out; omega
      have htk1 : t + 1 ≤ 4611686018427387904 := by have := HT2.out; omega
      generalize hPP : (if k = 0 then (p1, p2) else (d1, d2 + (k : Int) - 1)) = P at *
      clear hPP
      have hd := (Below.refl wr.heap.size wr).drew
      have HQ : Hid (Dx w.heap.size (w.heap.size + 1) b3 (o3 + k) (d1, d2) P r wr.drew) := Dx.keep ⟨HKr.out, HP.out, hcr⟩ hd
      have HBd := bel_tr HB hd
      have HZd : Hid (Below (w.heap.size + 1) w1 wr.drew) := HZ.out.drew
      have HOd := Lib.hid (HO.out.below hd)
      have HWd : Hid (w1.heap.size ≤ wr.drew.heap.size) := Nat.le_trans HW.out hd.size
      clear hd HKr HP hcr HB HZ HO HW
      obtain ⟨q1, q2⟩ := P
      go_wp2_with fail
      refine Sch.wp_region_tn (Dx w.heap.size (w.heap.size + 1) b3 (o3 + k) (d1, d2) (q1, q2) r) (.val 0 (.val 1 (.val 2 (.val 3 (.val 4 (.val 5 (.val 6 (.val 7 (.val 8 (.val 9 (.val 10 (.val 11 (.val 12 (.val 13 (.val 14 (.val 15 (.val 16 (.one 17 (.one 18 .done))))))))))))))))))) (by kernel_rfl) (by kernel_rfl) HQ.out ?_
      repeat (first
        | (refine Sch.tn_q rfl rfl rfl (fun K hK => ?_); go_big_quiet_op; (first | refine hK _ ?_ | refine ⟨_, fun _ _ => rfl, hK _ ?_⟩); clear hK K)
        | (refine Sch.tn_chk _ _ _ rfl rfl rfl rfl rfl ?_; simp only [Act.put, List.setIfInBounds_toArray, List.set_cons_zero, List.set_cons_succ])
        | (refine Sch.tn_load _ _ _ _ _ rfl rfl rfl rfl (by first | exact Dx.l0 | exact Dx.l1 | exact Dx.lp | exact Dx.lr) rfl ?_; simp only [Act.put, List.setIfInBounds_toArray, List.set_cons_zero, List.set_cons_succ]))
      generalize wr.drew = w3 at *
      refine Sch.tn_e rfl rfl (fun K hK => ?_)
      go_wp2_with fail
      have hbA := bel_box w3 (.cells #[.int .i64 0, .int .i64 0, .int .i64 0, .int .i64 0, .int .i64 0, .int .i32 0] 53)
      refine hK _ _ (HQ.out.keep hbA) ?_
      clear hK K
      clear hbA
      refine Sch.tn_e rfl rfl (fun K hK => ?_)
      go_wp2_with fail
      have hbN := bel_box w3 (.cells (nc ((d1, d2 + (k : Int)), (q1, q2), t + 1 + (k : Int), r)) 53)
      have HNb : Hid (Nb (w3.alloc (.cells (nc ((d1, d2 + (k : Int)), (q1, q2), t + 1 + (k : Int), r)) 53)) w3.heap.size ((d1, d2 + (k : Int)), (q1, q2), t + 1 + (k : Int), r)) := Nb.new w3 _
      have HB4 := bel_tr HBd hbN
      have HZ4 : Hid (Below (w.heap.size + 1) w1 (w3.alloc (.cells (nc ((d1, d2 + (k : Int)), (q1, q2), t + 1 + (k : Int), r)) 53))) := HZd.out.trans (hbN.mono (by have := HWd.out; have := HG2.out; omega))
      have HO4 := Lib.hid (HOd.out.below hbN)
      have HW4 : Hid (w1.heap.size ≤ (w3.alloc (.cells (nc ((d1, d2 + (k : Int)), (q1, q2), t + 1 + (k : Int), r)) 53)).heap.size) := Nat.le_trans HWd.out hbN.size
      have HP4 : Hid (Un.Bd (w3.alloc (.cells (nc ((d1, d2 + (k : Int)), (q1, q2), t + 1 + (k : Int), r)) 53)) (w.heap.size + 1) (q1, q2)) := HQ.out.2.1.keep hbN
      refine hK _ (w3.alloc (.cells (nc ((d1, d2 + (k : Int)), (q1, q2), t + 1 + (k : Int), r)) 53)) (HQ.out.keep hbN) ?_
      clear hK K hbN
      refine Sch.tn_n ?_
      have HGl : Hid (w.heap.size + 1 < w3.heap.size) := by have := HWd.out; have := HG2.out; show _ < _; omega
      have HOg := Lib.hid HOd.out.lt
      clear HQ HBd HZd HOd HWd
      generalize (w3.alloc (.cells (nc ((d1, d2 + (k : Int)), (q1, q2), t + 1 + (k : Int), r)) 53)) = w4 at *
      generalize w3.heap.size = gN at *
      obtain ⟨x, hx⟩ : ∃ x : Nt, x = ((d1, d2 + (k : Int)), (q1, q2), t + 1 + (k : Int), r) := ⟨_, rfl⟩
      rw [← hx] at HNb HTn
      have hx1 : x.1 = (d1, d2 + (k : Int)) := by rw [hx]
      have HX1 := Lib.hid hx1
      clear hx hx1 hdk htk htk1
      have hd := (Below.refl w4.heap.size w4).drew
      have HN5 : Hid (Kb6 gN x w4.drew) := Nb.keep (n := x) HNb.out hd
      have HB5 := bel_tr HB4 hd
      have HZ5 : Hid (Below (w.heap.size + 1) w1 w4.drew) := HZ4.out.drew
      have HO5 := Lib.hid (HO4.out.below hd)
      have HW5 : Hid (w1.heap.size ≤ w4.drew.heap.size) := Nat.le_trans HW4.out hd.size
      have HP5 : Hid (Un.Bd w4.drew (w.heap.size + 1) (q1, q2)) := HP4.out.keep hd
      clear hd HNb HB4 HZ4 HO4 HW4 HP4
      go_wp2_with fail
      refine Sch.wp_region_tn (Kb6 gN x) (.val 0 (.val 1 (.val 4 (.val 5 (.one 2 (.one 3 (.val 6 (.one 7 .done)))))))) (by kernel_rfl) (by kernel_rfl) HN5.out ?_
      repeat (first
        | (refine Sch.tn_q rfl rfl rfl (fun K hK => ?_); go_big_quiet_op; (first | refine hK _ ?_ | refine ⟨_, fun _ _ => rfl, hK _ ?_⟩); clear hK K)
        | (refine Sch.tn_chk _ _ _ rfl rfl rfl rfl rfl ?_; simp only [Act.put, List.setIfInBounds_toArray, List.set_cons_zero, List.set_cons_succ])
        | (refine Sch.tn_load _ _ _ _ _ rfl rfl rfl rfl (by first | exact Kb6.l | exact Kb6.ld) rfl ?_; simp only [Act.put, List.setIfInBounds_toArray, List.set_cons_zero, List.set_cons_succ]))
      generalize w4.drew = w5 at *
      refine Sch.tn_e rfl rfl (fun K hK => ?_)
      go_wp2_with fail
      have hb6 := bel_box w5 (.cells (nc x) 53)
      have HLit : Hid (RowN (w5.alloc (.cells (nc x) 53)) (some ⟨w5.heap.size, 0, none⟩) [x]) := RowN.lit w5 [x] _ _ _ rfl
      have HN6 : Hid (Kb6 gN x (w5.alloc (.cells (nc x) 53))) := Nb.keep (n := x) HN5.out hb6
      have HB6 := bel_tr HB5 hb6
      have HZ6 : Hid (Below (w.heap.size + 1) w1 (w5.alloc (.cells (nc x) 53))) := HZ5.out.trans (hb6.mono (by have := HW5.out; have := HG2.out; omega))
      have HO6 := Lib.hid (HO5.out.below hb6)
      have HW6 : Hid (w1.heap.size ≤ (w5.alloc (.cells (nc x) 53)).heap.size) := Nat.le_trans HW5.out hb6.size
      have HP6 := Lib.hid (HP5.out.keep hb6)
      clear hb6 HN5 HB5 HZ5 HO5 HW5 HP5
      refine hK _ _ HN6.out ?_
      clear hK K
      generalize (w5.alloc (.cells (nc x) 53)) = w6 at *
      generalize w5.heap.size = gL at *
      refine Sch.tn_e rfl rfl (fun K hK => ?_)
      refine wp_appN _ _ _ rfl Tryz.underlying23 infoN _ O rfl HO6.out (some ⟨gL, 0, none⟩) [x] 1 1 rfl rfl HLit.out (fun h => by cases h) (by have := HPl.out; simp only [List.length_cons, List.length_nil]; omega) HW6.out ?_
      intro v7 w7 ho hg _
      have HN7 : Hid (Kb6 gN x w7) := nb_row (n := x) HN6.out hg (fun e => by have := (HOg.out _ e.symm).2; omega)
      have HP7 : Hid (Un.Bd w7 (w.heap.size + 1) (q1, q2)) := (hg.block _ HP6.out.lt (fun e => by have := (HOg.out _ e.symm).1; have := HG2.out; omega)).trans HP6.out
      have HB7 := Lib.hid (HB6.out.grown hg HB6.out.size (fun x hx => by have := (HOg.out x hx).1; have := HG2.out; omega))
      have HZ7 := Lib.hid (HZ6.out.grown hg (by have := HW6.out; have := HG2.out; omega) (fun x hx => by have := (HOg.out x hx).1; have := HG2.out; omega))
      have HO7 : Hid (ON w7 w1.heap.size EN v7 (C.take (k + 1))) := by show ON _ _ _ _ _; rw [HTn.out]; exact ho
      have HW7 : Hid (w1.heap.size ≤ w7.heap.size) := Nat.le_trans HW6.out hg.size
      clear ho hg HN6 HP6 HB6 HZ6 HO6 HW6 HLit HOg HTn
      refine hK _ _ HN7.out ?_
      clear hK K
      simp only [Act.put, List.setIfInBounds_toArray, List.set_cons_zero, List.set_cons_succ]
      repeat (first
        | (refine Sch.tn_q rfl rfl rfl (fun K hK => ?_); go_big_quiet_op; (first | refine hK _ ?_ | refine ⟨_, fun _ _ => rfl, hK _ ?_⟩); clear hK K)
        | (refine Sch.tn_chk _ _ _ rfl rfl rfl rfl rfl ?_; simp only [Act.put, List.setIfInBounds_toArray, List.set_cons_zero, List.set_cons_succ])
        | (refine Sch.tn_load _ _ _ _ _ rfl rfl rfl rfl (by first | exact Kb6.l | exact Kb6.ld) rfl ?_; simp only [Act.put, List.setIfInBounds_toArray, List.set_cons_zero, List.set_cons_succ]))
      have d0 := HP7.out.c0
      have d1' := HP7.out.c1
      have f0 := bd_free HP7.out 0
      have f1 := bd_free HP7.out 1
      have HG := Lib.hid (gb_two w7 (w.heap.size + 1) (.int .i64 x.1.1) (.int .i64 x.1.2))
      have HPs : Hid (Un.Bd ((w7.setCell ⟨w.heap.size + 1, 0, none⟩ (.int .i64 x.1.1)).setCell ⟨w.heap.size + 1, 1, none⟩ (.int .i64 x.1.2)) (w.heap.size + 1) (if k + 1 = 0 then (p1, p2) else (d1, d2 + ((k + 1 : Nat) : Int) - 1))) := by
        have h1 := bd_set HP7.out x.1
        rw [if_neg (by omega), show (d1, d2 + ((k + 1 : Nat) : Int) - 1) = x.1 by rw [HX1.out]; refine Prod.ext rfl ?_; show d2 + ((k + 1 : Nat) : Int) - 1 = d2 + (k : Int); push_cast; omega]
        exact h1
      have HBs := Lib.hid (Un.run_storeD_below HB7.out (g := w.heap.size + 1) (by omega) x.1)
      have HZs := Lib.hid (Un.run_storeD_below HZ7.out (g := w.heap.size + 1) (Nat.le_refl _) x.1)
      have HOs := Lib.hid (HO7.out.keep HG.out (by
        rcases hown : v7.ownBlock with _ | y
        · exact .inl rfl
        · right
          intro e
          cases e
          have := (HO7.out.lt _ hown).1
          have := HG2.out
          omega))
      have HNs : Hid (Kb6 gN x ((w7.setCell ⟨w.heap.size + 1, 0, none⟩ (.int .i64 x.1.1)).setCell ⟨w.heap.size + 1, 1, none⟩ (.int .i64 x.1.2))) := nb_row (n := x) HN7.out HG.out (fun e => by cases e; have := HGl.out; omega)
      have HWs : Hid (w1.heap.size ≤ ((w7.setCell ⟨w.heap.size + 1, 0, none⟩ (.int .i64 x.1.1)).setCell ⟨w.heap.size + 1, 1, none⟩ (.int .i64 x.1.2)).heap.size) := Nat.le_trans HW7.out HG.out.size
      refine Sch.tn_e rfl rfl (fun K hK => ?_)
      go_wp2_with fail
      refine hK _ ((w7.setCell ⟨w.heap.size + 1, 0, none⟩ (.int .i64 x.1.1)).setCell ⟨w.heap.size + 1, 1, none⟩ (.int .i64 x.1.2)) HNs.out ?_
      clear hK K d0 d1' f0 f1 HG HN7 HP7 HB7 HZ7 HO7 HW7 HNs
      generalize (w7.setCell ⟨w.heap.size + 1, 0, none⟩ (.int .i64 x.1.1)).setCell ⟨w.heap.size + 1, 1, none⟩ (.int .i64 x.1.2) = w8 at *
      refine Sch.tn_n ?_
      clear HX1
      go_wp2_with fail
      go_roundw
      case rel => exact ⟨k + 1, by omega, by go_num, HBs, HZs, HWs, HPs, HOs⟩
      case measure => simp [intOf]; omega
    · obtain rfl : k = rs.length := by omega
      have hend : ¬ (rs.length : Int) < (rs.length : Int) := by omega
      rw [← HCl.out, List.take_length] at HO
      have HOf := Lib.hid (HO.out.mono (base' := w.heap.size) fun x hx => by have := (HO.out.lt x hx).1; have := HG2.out; omega)
      clear HO
      rw [HCl.out] at *
      go_wp2_with fail
      go_ret
      exact ⟨_, rfl, HOf.out, HB.out⟩
end Go.Proofs.YtkcbekebleodaaaGreat.Ed
end

/-
  Layer 15: package edit's part: the nodes with some dots.
-/
section
namespace Go.Proofs.YtkcbekebleodaaaGreat.Ed
set_option linter.unusedVariables false
open Go.RowKit V Go.Shelf Go.Sort D Nd Qs Wk Ix Jn Fo
attribute [local irreducible] Sch.heldN Sch.stepV Sch.stepE

/-- The nodes with the dots of a set, as a walk finds them. -/
def partS : List Nt → List Dt → List Nt
  | [], _ => []
  | _ :: _, [] => []
  | n :: t, d :: ds => if n.1 = d then n :: partS t ds else partS t (d :: ds)
theorem partS_nil (l : List Nt) : partS l [] = [] := by cases l <;> rfl
theorem partS_len : ∀ (l : List Nt) (ds : List Dt), (partS l ds).length ≤ l.length
  | [], _ => Nat.le_refl _
  | _ :: _, [] => Nat.zero_le _
  | n :: t, d :: ds => by
    rw [partS]
    split
    · have := partS_len t ds
      simp only [List.length_cons]
      omega
    · have := partS_len t (d :: ds)
      simp only [List.length_cons]
      omega
theorem part_filter : ∀ (l : List Nt) (ds : List Dt), SrtN l → Srt ds → (∀ d ∈ ds, ∃ n ∈ l, n.1 = d) → partS l ds = l.filter fun n => decide (n.1 ∈ ds)
  | [], _, _, _, _ => rfl
  | n :: t, [], _, _, _ => by
    rw [partS]
    symm
    rw [List.filter_eq_nil_iff]
    intro x _
    simp
  | n :: t, d :: ds, hl, hd, hin => by
    obtain ⟨hl1, hl2⟩ := List.pairwise_cons.1 hl
    obtain ⟨hd1, hd2⟩ := List.pairwise_cons.1 hd
    rw [partS]
    by_cases e : n.1 = d
    · rw [if_pos e]
      have ih := part_filter t ds hl2 hd2 (fun x hx => by
        obtain ⟨m, hm, e2⟩ := hin x (List.mem_cons_of_mem _ hx)
        rcases List.mem_cons.1 hm with rfl | hm
        · exact absurd (e2.symm.trans e) (less_ne (hd1 x hx)).symm
        · exact ⟨m, hm, e2⟩)
      rw [ih, List.filter_cons, if_pos (by simp [e])]
      congr 1
      refine List.filter_congr fun x hx => ?_
      have hne : x.1 ≠ d := fun e2 => less_ne (hl1 x hx) (by rw [e, e2])
      simp [hne]
    · rw [if_neg e]
      have hn : n.1 ∉ d :: ds := fun h => by
        rcases List.mem_cons.1 h with h | h
        · exact e h
        · obtain ⟨m, hm, e2⟩ := hin d (by simp)
          rcases List.mem_cons.1 hm with rfl | hm
          · exact e e2
          · have h1 := hl1 m hm
            rw [e2] at h1
            have h2 := hd1 _ h
            exact absurd (less_trans h1 h2) (by rw [less_irr]; decide)
      have ih := part_filter t (d :: ds) hl2 hd (fun x hx => by
        obtain ⟨m, hm, e2⟩ := hin x hx
        rcases List.mem_cons.1 hm with rfl | hm
        · exact absurd (e2 ▸ hx) hn
        · exact ⟨m, hm, e2⟩)
      rw [ih, List.filter_cons, if_neg (by simpa using hn)]
theorem part_step {l : List Nt} {k : Nat} (hk : k < l.length) (D : List Dt) : partS (l.drop k) D = match D with | [] => [] | d :: ds => if l[k].1 = d then l[k] :: partS (l.drop (k + 1)) ds else partS (l.drop (k + 1)) (d :: ds) := by
  rw [List.drop_eq_getElem_cons hk]
  cases D <;> rfl
/-- A node's box and a dot of a row. -/
def Pk (g b o : Nat) (n : Nt) (d : Dt) (w : World) : Prop := Nb w g n ∧ w.cell? ⟨b, o, none⟩ = some (.int .i64 d.1) ∧ w.cell? ⟨b, o + 1, none⟩ = some (.int .i64 d.2)
section
variable {g b o : Nat} {n : Nt} {d : Dt}
theorem Pk.ln : ∀ w, Pk g b o n d w → (Instr.loadAt 25 (.pointer (some ⟨g, 0, none⟩))).run Tryz.prog w = .ok (dv n.1) w := fun w h => Nb.loadD h.1
theorem Pk.ld : ∀ w, Pk g b o n d w → (Instr.loadAt 25 (.pointer (some ⟨b, o, none⟩))).run Tryz.prog w = .ok (dv d) w := fun w h => by
  have h1 := h.2.1
  have h2 := h.2.2
  go_simp
end
theorem ixD0 (b o n c : Nat) (hk : 0 < n) : ∀ w, (Instr.indexAt 75 (.slice (some ⟨b, o, none⟩) n c) (.int .i64 0)).run Tryz.prog w = .ok (.pointer (some ⟨b, o, none⟩)) w := fun w => by
  have := ix_dot b o n c 0 0 rfl hk w
  rwa [Nat.zero_mul, Nat.add_zero] at this
set_option maxRecDepth 100000 in
set_option maxHeartbeats 8000000 in
theorem part_any (l : List Nt) (dots : List Dt) (a b : Option Addr) (c e : Nat) (w : World) (hx : RowN w a l) (hd : RowD w b dots) (hlx : l.length ≤ 100000) (hly : dots.length ≤ 100000) :
    Calls Tryz.prog 51 #[.slice a l.length c, .slice b dots.length e] w fun e w' => ∃ v, e = .returned v ∧ ON w' w.heap.size EN v (partS l (setR dots)) ∧ Below w.heap.size w w' := by
  have HS := Lib.hid (set_any dots b e w hd (by omega))
  have HX := Lib.hid hx
  have hli : (l.length : Int) ≤ 100000 := by omega
  have HL := Lib.hid hlx
  have HSl : Hid ((setR dots).length ≤ 100000) := Nat.le_trans (set_len dots) hly
  clear hx hd hlx hly
  generalize setR dots = M at *
  have HR : Hid ([] ++ partS (l.drop 0) M = partS l M) := rfl
  generalize partS l M = R at *
  go_enter Tryz.func51, Tryz.ntmps51
  go_wp2_with fail
  refine HS.out.mono ?_
  rintro e w3 ⟨v3, rfl, hs, hb⟩
  obtain ⟨aM, cM, rfl, hcM, -, hrM⟩ := hs.row2
  have HCM := Lib.hid hcM
  have HRM := Lib.hid hrM
  have HB := Lib.hid hb
  clear hs hb hcM hrM HS
  obtain ⟨w4, hmk, ho4, hb4⟩ := run_mkS w3 M.length (by have := HSl.out; omega)
  have HO4 := Lib.hid ho4
  have HB4 := Lib.hid hb4
  have hm0 : (0 : Int) ≤ (M.length : Int) := by omega
  have hm1 : (M.length : Int) ≤ 100000 := by have := HSl.out; omega
  clear ho4 hb4
  go_wp2_with fail
  go_loopw [5, 6, 8, 16] (fun lf v _ i wr => ∃ (k : Nat) (D : List Dt) (aD : Option Addr) (cD : Nat) (P : List Nt), k ≤ l.length ∧ i = .int .i64 (k : Int) ∧ lf = .slice aD D.length cD ∧ Hid (RowD w3 aD D) ∧ Hid (D.length ≤ cD) ∧ Hid (ON wr w3.heap.size EN v P) ∧ Hid (Below w3.heap.size w3 wr) ∧ Hid (P ++ partS (l.drop k) D = R) ∧ Hid (P.length ≤ k ∧ D.length ≤ 100000)) (fun _ _ _ i _ => l.length - (intOf i).toNat)
  case atStart => exact ⟨0, M, aM, cM, [], Nat.zero_le _, rfl, rfl, HRM, HCM, HO4, HB4, HR, Nat.zero_le _, HSl.out⟩
  case round =>
    clear HR HO4 HB4 HRM HCM
    obtain ⟨k, D, aD, cD, P, hk, rfl, rfl, HRD, HCD, HO, HZ, HE, HPl⟩ := hrel
    by_cases hlt : k < l.length
    · have hi0 : (k : Int) < (l.length : Int) := by omega
      have HSt := Lib.hid (part_step hlt)
      have hbW := (HB.out.trans (HZ.out.mono HB.out.size))
      obtain ⟨b1, o1, rfl, hna⟩ := na_of (HX.out.keep hbW) k hlt
      obtain ⟨q, hq⟩ : ∃ q, q = l[k] := ⟨_, rfl⟩
      rw [← hq] at hna HSt
      clear hq hbW
      have hb5 := bel_box wr (.cells (nc q) 53)
      have HK5 : Hid (Nb (wr.alloc (.cells (nc q) 53)) wr.heap.size q) := Nb.new wr q
      have HO5 := Lib.hid (HO.out.below hb5)
      have HZ5 := Lib.hid (HZ.out.trans (hb5.mono HZ.out.size))
      have HGb : Hid (w3.heap.size ≤ wr.heap.size) := HZ.out.size
      have HOg := Lib.hid HO.out.lt
      obtain ⟨n0, n1, n2, n3, n4, n5⟩ := hna
      obtain ⟨⟨q1, q2⟩, ⟨q3, q4⟩, q5, q6⟩ := q
      clear hb5 HO HZ
      go_upto_region 6 with fail
      clear n0 n1 n2 n3 n4 n5
      have hw5 : (wr.alloc (.cells (nc ((q1, q2), (q3, q4), q5, q6)) 53)) = (wr.alloc (.cells #[.int .i64 q1, .int .i64 q2, .int .i64 q3, .int .i64 q4, .int .i64 q5, .int .i32 q6] 53)) := rfl
      rw [hw5] at HK5 HO5 HZ5
      clear hw5
      generalize (wr.alloc (.cells #[.int .i64 q1, .int .i64 q2, .int .i64 q3, .int .i64 q4, .int .i64 q5, .int .i32 q6] 53)) = w5 at *
      generalize wr.heap.size = g5 at *
      obtain ⟨q, hq⟩ : ∃ q : Nt, q = ((q1, q2), (q3, q4), q5, q6) := ⟨_, rfl⟩
      rw [← hq] at HK5 HSt
      clear hq
      have hd6 := (Below.refl w5.heap.size w5).drew
      have HK6 := Lib.hid (HK5.out.keep hd6)
      have HO6 := Lib.hid (HO5.out.below hd6)
      have HZ6 : Hid (Below w3.heap.size w3 w5.drew) := HZ5.out.drew
      clear hd6 HK5 HO5 HZ5
      rcases D with _ | ⟨d, ds⟩
      · have HE2 : Hid (P ++ partS (l.drop (k + 1)) [] = R) := by
          have h1 := HE.out
          rw [HSt.out] at h1
          show _ = _
          rw [partS_nil]
          exact h1
        have HPl2 : Hid (P.length ≤ k + 1 ∧ ([] : List Dt).length ≤ 100000) := by have := HPl.out; show _ ∧ _; simp only [List.length_nil]; omega
        clear HE HSt
        simp only [List.length_nil]
        go_wp2_with fail
        refine Sch.wp_region_tn (fun w => Nb w g5 q) (.val 0 (.val 1 (.val 2 (.val 3 (.val 4 (.val 5 (.val 6 (.val 7 (.val 8 (.val 9 (.val 10 .done))))))))))) (by kernel_rfl) (by kernel_rfl) HK6.out ?_
        repeat (first
          | (refine Sch.tn_q rfl rfl rfl (fun K hK => ?_); go_big_quiet_op; (first | refine hK _ ?_ | refine ⟨_, fun _ _ => rfl, hK _ ?_⟩); clear hK K)
          | (refine Sch.tn_chk _ _ _ rfl rfl rfl rfl rfl ?_; simp only [Act.put, List.setIfInBounds_toArray, List.set_cons_zero, List.set_cons_succ]))
        repeat (first
          | (refine Sch.tn_q rfl rfl rfl (fun K hK => ?_); go_big_quiet_op; (first | refine hK _ ?_ | refine ⟨_, fun _ _ => rfl, hK _ ?_⟩); clear hK K)
          | (refine Sch.tn_chk _ _ _ rfl rfl rfl rfl rfl ?_; simp only [Act.put, List.setIfInBounds_toArray, List.set_cons_zero, List.set_cons_succ])
          | (refine Sch.tn_s _ rfl rfl rfl ?_; simp only [Act.put, List.setIfInBounds_toArray, List.set_cons_zero, List.set_cons_succ])
          | (refine Sch.tn_se _ rfl rfl rfl ?_; simp only [Act.put, List.setIfInBounds_toArray, List.set_cons_zero, List.set_cons_succ]))
        refine Sch.tn_n ?_
        generalize w5.drew = w6 at *
        go_wp2_with fail
        go_roundw
        case rel => exact ⟨k + 1, [], aD, cD, P, by omega, by go_num, rfl, HRD, HCD, HO6, HZ6, HE2, HPl2⟩
        case measure => simp [intOf]; omega
      · obtain ⟨D, hD⟩ : ∃ D, D = d :: ds := ⟨_, rfl⟩
        have hdl : (d :: ds).length = D.length := by rw [hD]
        have HDd : Hid (D.drop 1 = ds) := by show _ = _; rw [hD]; rfl
        have HDn : Hid (D.length = ds.length + 1) := by show _ = _; rw [hD]; rfl
        have HD0 : Hid (∃ h : 0 < D.length, D[0] = d) := by subst hD; exact ⟨by simp, rfl⟩
        have HSt2 := Lib.hid (HSt.out (d :: ds))
        rw [hdl] at HCD HPl ⊢
        rw [← hD] at HRD
        have HE1 : Hid (P ++ partS (l.drop k) (d :: ds) = R) := HE.out
        clear HSt hD hdl HE
        obtain ⟨b2, o2, rfl, hc0, hc1⟩ : ∃ b2 o2, aD = some ⟨b2, o2, none⟩ ∧ w5.drew.cell? ⟨b2, o2, none⟩ = some (.int .i64 d.1) ∧ w5.drew.cell? ⟨b2, o2 + 1, none⟩ = some (.int .i64 d.2) := by
          obtain ⟨b2, o2, e2, h0, h1⟩ := HRD.out.get HZ6.out 0 HD0.out.1
          rw [HD0.out.2] at h0 h1
          simp only [Nat.zero_mul, Nat.add_zero] at h0 h1
          exact ⟨b2, o2, e2, h0, h1⟩
        have HQ6 : Hid (Pk g5 b2 o2 q d w5.drew) := ⟨HK6.out, hc0, hc1⟩
        have hx0 := ixD0 b2 o2 D.length cD HD0.out.1
        have hp0 : (0 : Int) < (D.length : Int) := by have := HD0.out.1; omega
        have hp1 : decide ((0 : Int) < (D.length : Int)) = true := decide_eq_true hp0
        have hp2 : 0 < D.length := HD0.out.1
        have hp3 : decide (0 < D.length) = true := decide_eq_true hp2
        have heq := fun w => eql_dot q.1 d w
        have HDc : Hid ((decide (q.1 = d) = true → partS (l.drop k) (d :: ds) = q :: partS (l.drop (k + 1)) ds) ∧ (decide (q.1 = d) = false → partS (l.drop k) (d :: ds) = partS (l.drop (k + 1)) (d :: ds))) := by
          have h1 := HSt2.out
          simp only at h1
          refine ⟨fun h => ?_, fun h => ?_⟩
          · rw [h1, if_pos (of_decide_eq_true h)]
          · rw [h1, if_neg (of_decide_eq_false h)]
        clear hc0 hc1 HSt2
        generalize decide (q.1 = d) = bq at *
        rcases bq with _ | _
        · have HE2 : Hid (P ++ partS (l.drop (k + 1)) D = R) := by
            have h1 := HE1.out
            rw [HDc.out.2 rfl] at h1
            show _ = _
            rw [show D = d :: ds by
              have h2 := List.drop_eq_getElem_cons (l := D) (i := 0) HD0.out.1
              rw [List.drop_zero, HD0.out.2, HDd.out] at h2
              exact h2]
            exact h1
          have HPl2 : Hid (P.length ≤ k + 1 ∧ D.length ≤ 100000) := by have := HPl.out; show _ ∧ _; omega
          clear HE1 HDc HK6
          go_wp2_with fail
          refine Sch.wp_region_tn (Pk g5 b2 o2 q d) (.val 0 (.val 1 (.val 2 (.val 3 (.val 4 (.val 5 (.val 6 (.val 7 (.val 8 (.val 9 (.val 10 .done))))))))))) (by kernel_rfl) (by kernel_rfl) HQ6.out ?_
          repeat (first
            | (refine Sch.tn_q rfl rfl rfl (fun K hK => ?_); go_big_quiet_op; (first | refine hK _ ?_ | refine ⟨_, fun _ _ => rfl, hK _ ?_⟩); clear hK K)
            | (refine Sch.tn_chk _ _ _ rfl rfl rfl rfl rfl ?_; simp only [Act.put, List.setIfInBounds_toArray, List.set_cons_zero, List.set_cons_succ])
            | (refine Sch.tn_load _ _ _ _ _ rfl rfl rfl rfl (by first | exact Pk.ln | exact Pk.ld) rfl ?_; simp only [Act.put, List.setIfInBounds_toArray, List.set_cons_zero, List.set_cons_succ]))
          repeat (first
            | (refine Sch.tn_q rfl rfl rfl (fun K hK => ?_); go_big_quiet_op; (first | refine hK _ ?_ | refine ⟨_, fun _ _ => rfl, hK _ ?_⟩); clear hK K)
            | (refine Sch.tn_chk _ _ _ rfl rfl rfl rfl rfl ?_; simp only [Act.put, List.setIfInBounds_toArray, List.set_cons_zero, List.set_cons_succ])
            | (refine Sch.tn_load _ _ _ _ _ rfl rfl rfl rfl (by first | exact Pk.ln | exact Pk.ld) rfl ?_; simp only [Act.put, List.setIfInBounds_toArray, List.set_cons_zero, List.set_cons_succ])
            | (refine Sch.tn_s _ rfl rfl rfl ?_; simp only [Act.put, List.setIfInBounds_toArray, List.set_cons_zero, List.set_cons_succ])
            | (refine Sch.tn_se _ rfl rfl rfl ?_; simp only [Act.put, List.setIfInBounds_toArray, List.set_cons_zero, List.set_cons_succ]))
          refine Sch.tn_n ?_
          generalize w5.drew = w6 at *
          go_wp2_with fail
          go_roundw
          case rel => exact ⟨k + 1, D, _, cD, P, by omega, by go_num, rfl, HRD, HCD, HO6, HZ6, HE2, HPl2⟩
          case measure => simp [intOf]; omega
        · have HE2 : Hid ((P ++ [q]) ++ partS (l.drop (k + 1)) ds = R) := by
            have h1 := HE1.out
            rw [HDc.out.1 rfl] at h1
            show _ = _
            rw [List.append_assoc]
            exact h1
          clear HE1 HDc HK6
          go_wp2_with fail
          refine Sch.wp_region_tn (Pk g5 b2 o2 q d) (.val 0 (.val 1 (.val 2 (.val 3 (.val 4 (.val 5 (.val 6 (.val 7 (.val 8 (.val 9 (.val 10 .done))))))))))) (by kernel_rfl) (by kernel_rfl) HQ6.out ?_
          repeat (first
            | (refine Sch.tn_q rfl rfl rfl (fun K hK => ?_); go_big_quiet_op; (first | refine hK _ ?_ | refine ⟨_, fun _ _ => rfl, hK _ ?_⟩); clear hK K)
            | (refine Sch.tn_chk _ _ _ rfl rfl rfl rfl rfl ?_; simp only [Act.put, List.setIfInBounds_toArray, List.set_cons_zero, List.set_cons_succ])
            | (refine Sch.tn_load _ _ _ _ _ rfl rfl rfl rfl (by first | exact Pk.ln | exact Pk.ld) rfl ?_; simp only [Act.put, List.setIfInBounds_toArray, List.set_cons_zero, List.set_cons_succ]))
          repeat (first
            | (refine Sch.tn_q rfl rfl rfl (fun K hK => ?_); go_big_quiet_op; (first | refine hK _ ?_ | refine ⟨_, fun _ _ => rfl, hK _ ?_⟩); clear hK K)
            | (refine Sch.tn_chk _ _ _ rfl rfl rfl rfl rfl ?_; simp only [Act.put, List.setIfInBounds_toArray, List.set_cons_zero, List.set_cons_succ])
            | (refine Sch.tn_load _ _ _ _ _ rfl rfl rfl rfl (by first | exact Pk.ln | exact Pk.ld) rfl ?_; simp only [Act.put, List.setIfInBounds_toArray, List.set_cons_zero, List.set_cons_succ])
            | (refine Sch.tn_s _ rfl rfl rfl ?_; simp only [Act.put, List.setIfInBounds_toArray, List.set_cons_zero, List.set_cons_succ])
            | (refine Sch.tn_se _ rfl rfl rfl ?_; simp only [Act.put, List.setIfInBounds_toArray, List.set_cons_zero, List.set_cons_succ]))
          refine Sch.tn_n ?_
          generalize w5.drew = w6 at *
          clear hx0 hp0 hp1 hp2 hp3 heq
          have hd7 := (Below.refl w6.heap.size w6).drew
          have HN7 : Hid (Kb6 g5 q w6.drew) := Nb.keep (n := q) HQ6.out.1 hd7
          have HO7 := Lib.hid (HO6.out.below hd7)
          have HZ7 : Hid (Below w3.heap.size w3 w6.drew) := HZ6.out.drew
          have s2 : ∀ wx : World, (Instr.slice 75 (.slice (some ⟨b2, o2, none⟩) D.length cD) (some (.int .i64 1)) none none).run Tryz.prog wx = .ok (.slice (off (some ⟨b2, o2, none⟩) cD 1) ds.length (cD - 1)) wx := cut_hi _ D.length cD 1 ds.length (by have := HDn.out; omega) HCD.out
          have HRd := Lib.hid (off_row HRD.out cD 1 HCD.out (by have := HDn.out; omega))
          have HCd : Hid (ds.length ≤ cD - 1) := by have := HDn.out; have := HCD.out; show _ ≤ _; omega
          rw [HDd.out] at HRd
          clear hd7 HQ6 HO6 HZ6 HRD
          generalize off (some ⟨b2, o2, none⟩) cD 1 = ad at *
          generalize cD - 1 = cd at *
          go_wp2_with fail
          refine Sch.wp_region_tn (Kb6 g5 q) (.val 0 (.val 1 (.val 4 (.val 5 (.one 2 (.one 3 (.val 6 (.val 7 .done)))))))) (by kernel_rfl) (by kernel_rfl) HN7.out ?_
          repeat (first
            | (refine Sch.tn_q rfl rfl rfl (fun K hK => ?_); go_big_quiet_op; (first | refine hK _ ?_ | refine ⟨_, fun _ _ => rfl, hK _ ?_⟩); clear hK K)
            | (refine Sch.tn_chk _ _ _ rfl rfl rfl rfl rfl ?_; simp only [Act.put, List.setIfInBounds_toArray, List.set_cons_zero, List.set_cons_succ])
            | (refine Sch.tn_load _ _ _ _ _ rfl rfl rfl rfl (by first | exact Kb6.l) rfl ?_; simp only [Act.put, List.setIfInBounds_toArray, List.set_cons_zero, List.set_cons_succ]))
          generalize w6.drew = w7 at *
          refine Sch.tn_e rfl rfl (fun K hK => ?_)
          go_wp2_with fail
          have hb8 := bel_box w7 (.cells (nc q) 53)
          have HLit : Hid (RowN (w7.alloc (.cells (nc q) 53)) (some ⟨w7.heap.size, 0, none⟩) [q]) := RowN.lit w7 [q] _ _ _ rfl
          have HN8 : Hid (Kb6 g5 q (w7.alloc (.cells (nc q) 53))) := Nb.keep (n := q) HN7.out hb8
          have HO8 := Lib.hid (HO7.out.below hb8)
          have HZ8 := Lib.hid (HZ7.out.trans (hb8.mono HZ7.out.size))
          clear hb8 HN7 HO7 HZ7
          refine hK _ _ HN8.out ?_
          clear hK K
          generalize (w7.alloc (.cells (nc q) 53)) = w8 at *
          generalize w7.heap.size = gL at *
          refine Sch.tn_e rfl rfl (fun K hK => ?_)
          refine wp_appN _ _ _ rfl Tryz.underlying23 infoN _ P rfl HO8.out (some ⟨gL, 0, none⟩) [q] 1 1 rfl rfl HLit.out (fun h => by cases h) (by have := HPl.out; have := HL.out; simp only [List.length_cons, List.length_nil]; omega) HZ8.out.size ?_
          intro v9 w9 ho hg _
          have HN9 : Hid (Kb6 g5 q w9) := nb_row (n := q) HN8.out hg (fun e => by have := (HOg.out _ e.symm).2; omega)
          have HO9 : Hid (ON w9 w3.heap.size EN v9 (P ++ [q])) := ho
          have HZ9 := Lib.hid (HZ8.out.grown hg HZ8.out.size (fun x hx => (HO8.out.lt x hx).1))
          clear ho hg HN8 HO8 HZ8 HLit
          refine hK _ _ HN9.out ?_
          clear hK K
          simp only [Act.put, List.setIfInBounds_toArray, List.set_cons_zero, List.set_cons_succ]
          repeat (first
            | (refine Sch.tn_q rfl rfl rfl (fun K hK => ?_); go_big_quiet_op; (first | refine hK _ ?_ | refine ⟨_, fun _ _ => rfl, hK _ ?_⟩); clear hK K)
            | (refine Sch.tn_chk _ _ _ rfl rfl rfl rfl rfl ?_; simp only [Act.put, List.setIfInBounds_toArray, List.set_cons_zero, List.set_cons_succ])
            | (refine Sch.tn_load _ _ _ _ _ rfl rfl rfl rfl (by first | exact Kb6.l) rfl ?_; simp only [Act.put, List.setIfInBounds_toArray, List.set_cons_zero, List.set_cons_succ]))
          refine Sch.tn_n ?_
          have HPl2 : Hid ((P ++ [q]).length ≤ k + 1 ∧ ds.length ≤ 100000) := by
            have h1 := HPl.out
            have h2 := HDn.out
            show _ ∧ _
            simp only [List.length_append, List.length_cons, List.length_nil]
            omega
          clear HN9
          go_wp2_with fail
          go_roundw
          case rel => exact ⟨k + 1, ds, ad, cd, P ++ [q], by omega, by go_num, rfl, HRd, HCd, HO9, HZ9, HE2, HPl2⟩
          case measure => simp [intOf]; omega
    · obtain rfl : k = l.length := by omega
      have hend : ¬ (l.length : Int) < (l.length : Int) := by omega
      have HR2 : Hid (P = R) := by
        have h1 := HE.out
        rw [List.drop_length] at h1
        show _ = _
        rw [← h1]
        simp [partS]
      have HOf := Lib.hid (HO.out.mono (base' := w.heap.size) fun x hx => Nat.le_trans HB.out.size (HO.out.lt x hx).1)
      have HBf := bel_tr HB HZ.out
      clear HO
      go_wp2_with fail
      go_ret
      rw [← HR2.out]
      exact ⟨_, rfl, HOf.out, HBf.out⟩
end Go.Proofs.YtkcbekebleodaaaGreat.Ed
end

/-
  Layer 15, plainly: the errors of Insert and Delete, and what they hand back.
-/
section
namespace Go.Proofs.YtkcbekebleodaaaGreat.Ed
set_option linter.unusedVariables false
open Go.RowKit V D Nd Qs Wk Ix Jn Fo

/-- What Delete returns. -/
def delP (l : List Nt) (i n : Int) : List Nt × Int := repP l (1, 1) i n []
/-- What Insert returns. -/
def insP (l : List Nt) (d : Dt) (i : Int) (rs : List Int) : List Nt × Int := repP l d i 0 rs
theorem vis_prog {l : List Nt} (hw : wellS l = true) : Un.visP l = (visS l, 0) := by
  rcases Un.visP_cases l with ⟨-, h⟩ | ⟨h, -⟩
  · exact h
  · rw [well_valid hw] at h; cases h
/-- The error of Delete. -/
def delE (l : List Nt) (i n j : Int) : Int := Un.firstE [if wellS l = true then 0 else 2, (Un.idotsI l i j).2, if n ≤ 10000 then 0 else 5]
theorem first0 (es : List Int) : Un.firstE (0 :: es) = Un.firstE es := by rw [Un.firstE, if_pos rfl]
theorem first1 {e : Int} (h : e ≠ 0) (es : List Int) : Un.firstE (e :: es) = e := by rw [Un.firstE, if_neg h]
theorem wrap_cases {x : Int} (h1 : -9223372036854775808 ≤ x) (h2 : x ≤ 18446744073709551614) : (x ≤ 9223372036854775807 ∧ IntKind.i64.wrap x = x) ∨ (9223372036854775807 < x ∧ IntKind.i64.wrap x = x - 18446744073709551616) := by
  unfold IntKind.wrap
  simp [IntKind.bits, IntKind.signed]
  omega
theorem srt_filter {l : List Nt} (h : SrtN l) (p : Nt → Bool) : SrtN (l.filter p) := List.Pairwise.filter p h
theorem time_top {l : List Nt} (hv : validS l = true) : timeS l ≤ 4611686018427387904 := time_max (by omega) fun x hx => (valid_vn.1 ((validS_iff.1 hv).1 x hx)).2.2.2.2.1
theorem kdots_mem {l : List Nt} (hv : validS l = true) {m k : Nat} {d : Dt} (h : d ∈ kdots l m k) : ∃ y ∈ ((visS l).drop m).take k, y ∈ l ∧ y.1 = d := by
  unfold kdots at h
  obtain ⟨y, hy, e⟩ := List.mem_map.1 h
  exact ⟨y, hy, (vis_mem hv (List.mem_of_mem_drop (List.mem_of_mem_take hy))).1, e⟩
theorem part_kill {l : List Nt} (hw : wellS l = true) {m k : Nat} (hin : m + k ≤ (visS l).length) : killP (partS l (setR (kdots l m k))) (kdots l m k) = (deltaS l (1, 1) m k [], 0) := by
  have hv := well_valid hw
  obtain ⟨hva, hs⟩ := validS_iff.1 hv
  have hset : ∀ d, d ∈ setR (kdots l m k) ↔ d ∈ kdots l m k := fun d => mem_set
  have hp : partS l (setR (kdots l m k)) = l.filter fun n => decide (n.1 ∈ kdots l m k) := by
    rw [part_filter l _ hs (srt_set _) (fun d hd => by
      obtain ⟨y, -, hy, e⟩ := kdots_mem hv ((hset d).1 hd)
      exact ⟨y, hy, e⟩)]
    refine List.filter_congr fun x _ => ?_
    rw [decide_eq_decide]
    exact hset _
  rw [hp]
  generalize hM : (l.filter fun n => decide (n.1 ∈ kdots l m k)) = M
  have hMm : ∀ x, x ∈ M ↔ x ∈ l ∧ x.1 ∈ kdots l m k := fun x => by rw [← hM, List.mem_filter, decide_eq_true_eq]
  have hMv : validS M = true := validS_iff.2 ⟨fun x hx => hva x ((hMm x).1 hx).1, by rw [← hM]; exact srt_filter hs _⟩
  have hds : (kdots l m k).all validR = true := by
    rw [List.all_eq_true]
    intro d hd
    obtain ⟨y, -, hy, e⟩ := kdots_mem hv hd
    rw [← e]
    exact (valid_vn.1 (hva y hy)).1
  have hat : (kdots l m k).all (fun d => (atS M d).isSome) = true := by
    rw [List.all_eq_true]
    intro d hd
    obtain ⟨y, -, hy, e⟩ := kdots_mem hv hd
    have h1 := at_mem (validS_iff.1 hMv).2 ((hMm y).2 ⟨hy, by rw [e]; exact hd⟩)
    rw [e] at h1
    rw [h1]
    rfl
  unfold killP killS
  rw [hMv, hds, if_pos (by rfl), if_pos hat]
  have ok : Ok l (1, 1) m k [] := ⟨hw, by decide, hin, (fun r hr => by cases hr), by decide, by have := time_top hv; simp; omega, fun j hj => by simp at hj⟩
  have hd := ok.delta
  refine congrArg (·, (0 : Int)) (srt_ext2 ?_ (validS_iff.1 hd.1).2 fun x => ?_)
  · have := kill_valid hMv (kdots l m k)
    exact (validS_iff.1 this).2
  · rw [hd.2 x]
    unfold partsS chainS
    rw [chainN, List.append_nil]
    unfold killsS
    rw [List.mem_map, List.mem_map]
    constructor
    · rintro ⟨y, hy, rfl⟩
      obtain ⟨hyl, hyd⟩ := (hMm y).1 hy
      obtain ⟨z, hz, hzl, e⟩ := kdots_mem hv hyd
      have : z = y := srt_one hs hzl hyl e
      subst this
      exact ⟨z, hz, by unfold killAt; rw [if_pos hyd]⟩
    · rintro ⟨y, hy, rfl⟩
      have hyd : y.1 ∈ kdots l m k := List.mem_map.2 ⟨y, hy, rfl⟩
      have hyl := (vis_mem hv (List.mem_of_mem_drop (List.mem_of_mem_take hy))).1
      exact ⟨y, (hMm y).2 ⟨hyl, hyd⟩, by unfold killAt; rw [if_pos hyd]⟩
theorem del_plain {l : List Nt} {i n : Int} (hi1 : -9223372036854775808 ≤ i) (hi2 : i ≤ 9223372036854775807) (hn1 : -9223372036854775808 ≤ n) (hn2 : n ≤ 9223372036854775807) (hl : (visS l).length ≤ 400000) :
    delE l i n (IntKind.i64.wrap (i + n)) = (delP l i n).2 ∧ ((delP l i n).2 ≠ 0 → (delP l i n).1 = []) ∧
    ((delP l i n).2 = 0 → (Un.idotsI l i (IntKind.i64.wrap (i + n))).1 = kdots l i.toNat n.toNat ∧ killP (partS l (setR (kdots l i.toNat n.toNat))) (kdots l i.toNat n.toNat) = delP l i n ∧ (kdots l i.toNat n.toNat).length ≤ 400000 ∧ validS l = true) := by
  unfold delP delE
  rcases hw : wellS l with _ | _
  · rw [rep_arg (by rw [hw]; rfl), if_neg (by decide), first1 (by decide)]
    exact ⟨rfl, fun _ => rfl, fun h => by cases h⟩
  · have hv := well_valid hw
    rw [if_pos rfl, first0]
    have hidx : Un.idotsI l i (IntKind.i64.wrap (i + n)) = if 0 ≤ i ∧ i ≤ IntKind.i64.wrap (i + n) ∧ IntKind.i64.wrap (i + n) ≤ ((visS l).length : Int) then ((((visS l).drop i.toNat).take ((IntKind.i64.wrap (i + n)).toNat - i.toNat)).map (·.1), 0) else ([], 3) := by
      unfold Un.idotsI Un.partE
      rw [vis_prog hw]
      simp only [first0]
      by_cases hc : 0 ≤ i ∧ i ≤ IntKind.i64.wrap (i + n) ∧ IntKind.i64.wrap (i + n) ≤ ((visS l).length : Int)
      · rw [if_pos hc, if_pos hc]
        rfl
      · rw [if_neg hc, if_neg hc]
        rfl
    by_cases hoff : offR l i n
    · have hc : ¬ (0 ≤ i ∧ i ≤ IntKind.i64.wrap (i + n) ∧ IntKind.i64.wrap (i + n) ≤ ((visS l).length : Int)) := by
        unfold offR at hoff
        by_cases h0 : i < 0
        · omega
        · rcases wrap_cases (x := i + n) (by omega) (by omega) with ⟨h1, h2⟩ | ⟨h1, h2⟩
          · rw [h2]; omega
          · rw [h2]; omega
      rw [rep_off hw (by decide) hoff, hidx, if_neg hc, first1 (by decide)]
      exact ⟨rfl, fun _ => rfl, fun h => by cases h⟩
    · have hoff2 := hoff
      unfold offR at hoff2
      have hwr : IntKind.i64.wrap (i + n) = i + n := by
        rcases wrap_cases (x := i + n) (by omega) (by omega) with ⟨h1, h2⟩ | ⟨h1, h2⟩
        · exact h2
        · omega
      rw [hwr] at hidx ⊢
      rw [hidx, if_pos (by omega), first0]
      have hwd : (wellS l && validR ((1, 1) : Dt)) = true := by rw [hw]; decide
      by_cases hN : 10000 < n
      · rw [rep_long hwd hoff (.inr hN), if_neg (by omega), first1 (by decide)]
        exact ⟨rfl, fun _ => rfl, fun h => by cases h⟩
      · rw [if_pos (by omega), first0]
        obtain ⟨m, rfl⟩ : ∃ m : Nat, i = (m : Int) := ⟨i.toNat, by omega⟩
        obtain ⟨k, rfl⟩ : ∃ k : Nat, n = (k : Int) := ⟨n.toNat, by omega⟩
        have hin : m + k ≤ (visS l).length := by omega
        have ok : Ok l (1, 1) m k [] := ⟨hw, by decide, hin, (fun r hr => by cases hr), by decide, by have := time_top hv; simp; omega, fun j hj => by simp at hj⟩
        have hr := ok_rep ok (by omega) (by simp)
        rw [hr]
        refine ⟨rfl, fun h => absurd rfl h, fun _ => ⟨?_, ?_, ?_, hv⟩⟩
        · show List.map _ _ = kdots l _ _
          unfold kdots
          rw [show ((m : Int) + (k : Int)).toNat - (m : Int).toNat = (k : Int).toNat by omega]
        · simp only [Int.toNat_natCast]
          exact part_kill hw hin
        · simp only [Int.toNat_natCast]
          unfold kdots
          rw [List.length_map, List.length_take, List.length_drop]
          omega
/-! ### Insert -/
/-- The errors of Insert, in their order. -/
def insE (W V : Bool) (e : Int) (b5 al c1 c2 tk : Bool) : Int := Un.firstE [if (W && V) = true then 0 else 2, e, if b5 = true then 0 else 5, if al = true then 0 else 13, if (c1 && c2) = true then 0 else 14, if (!tk) = true then 0 else 11]
theorem taken_busy {l : List Nt} {d : Dt} {n : Nat} (h1 : 1 ≤ d.2) (h2 : d.2 + (n : Int) ≤ 4294967296) : l.any (takenB d (n : Int)) = busyS l d n := by
  have hw : IntKind.i64.wrap (d.2 + (n : Int)) = d.2 + (n : Int) := by
    rcases wrap_cases (x := d.2 + (n : Int)) (by omega) (by omega) with ⟨_, h⟩ | ⟨h, _⟩
    · exact h
    · omega
  rw [Bool.eq_iff_iff, List.any_eq_true]
  unfold busyS takenB
  rw [List.any_eq_true, hw]
  simp only [Bool.and_eq_true, decide_eq_true_eq]
  constructor
  · rintro ⟨x, hx, ⟨h3, h4⟩, h5⟩
    refine ⟨(x.1.2 - d.2).toNat, List.mem_range.2 (by omega), ?_⟩
    rcases ha : atS l (d.1, d.2 + ((x.1.2 - d.2).toNat : Int)) with _ | y
    · refine absurd ?_ (at_none.1 ha x hx)
      refine Prod.ext h3 ?_
      show x.1.2 = d.2 + ((x.1.2 - d.2).toNat : Int)
      omega
    · rfl
  · rintro ⟨k, hk, e⟩
    rw [List.mem_range] at hk
    rcases ha : atS l (d.1, d.2 + (k : Int)) with _ | x
    · rw [ha] at e; cases e
    · obtain ⟨hx, hd⟩ := at_some ha
      have e1 := congrArg Prod.fst hd
      have e2 := congrArg Prod.snd hd
      simp only at e1 e2
      exact ⟨x, hx, ⟨e1, by omega⟩, by omega⟩
theorem left_par {l : List Nt} (hw : wellS l = true) {m : Nat} (hm : m ≤ (visS l).length) : Un.leftI l (m : Int) = (parS l m, 0) := by
  unfold parS
  by_cases h0 : m = 0
  · subst h0
    rw [if_pos rfl]
    show Un.leftI l 0 = _
    rw [Un.left_zero, vis_prog hw]
    rfl
  · obtain ⟨k, rfl⟩ : ∃ k, m = k + 1 := ⟨m - 1, by omega⟩
    have hk : k < (visS l).length := by omega
    have h := Un.left_yes (l := l) (k := k) (by rw [vis_prog hw]; exact hk)
    rw [if_neg h0, show k + 1 - 1 = k by omega, List.getElem?_eq_getElem hk]
    push_cast
    rw [h.1]
    simp only [vis_prog hw]
theorem left_off {l : List Nt} (hw : wellS l = true) {i : Int} (h : ¬ (0 ≤ i ∧ i ≤ ((visS l).length : Int))) : (Un.leftI l i).2 = 3 := by
  have h1 := Un.left_err (l := l) (i := i) (by rw [vis_prog hw]; exact h)
  rw [h1.1, vis_prog hw]
  rfl
theorem ins_plain {l : List Nt} {d : Dt} {i : Int} {rs : List Int} (hl : rs.length ≤ 1000000) (hd1 : -9223372036854775808 ≤ d.2) (hd2 : d.2 ≤ 9223372036854775807) :
    let E := insE (wellS l) (validR d) (Un.leftI l i).2 (decide ((rs.length : Int) ≤ 10000)) (rs.all R.vld) (decide (IntKind.i64.wrap (IntKind.i64.wrap (d.2 + (rs.length : Int)) - 1) ≤ 4294967295)) (decide (IntKind.i64.wrap (lateP l + (rs.length : Int)) ≤ 4611686018427387904)) (l.any (takenB d (rs.length : Int)))
    E = (insP l d i rs).2 ∧ (E ≠ 0 → (insP l d i rs).1 = []) ∧ (E = 0 → (insP l d i rs).1 = chainN d (Un.leftI l i).1 (lateP l + 1) rs ∧ rs.length ≤ 10000 ∧ 1 ≤ d.2 ∧ d.2 + (rs.length : Int) ≤ 4294967296 ∧ 0 ≤ lateP l ∧ lateP l + (rs.length : Int) ≤ 4611686018427387904) := by
  intro E
  have hE : E = insE (wellS l) (validR d) (Un.leftI l i).2 (decide ((rs.length : Int) ≤ 10000)) (rs.all R.vld) (decide (IntKind.i64.wrap (IntKind.i64.wrap (d.2 + (rs.length : Int)) - 1) ≤ 4294967295)) (decide (IntKind.i64.wrap (lateP l + (rs.length : Int)) ≤ 4611686018427387904)) (l.any (takenB d (rs.length : Int))) := rfl
  clear_value E
  unfold insE at hE
  unfold insP
  by_cases hwd : (wellS l && validR d) = true
  · rw [if_pos hwd, first0] at hE
    have hw : wellS l = true := by rw [Bool.and_eq_true] at hwd; exact hwd.1
    have hdv := valid_iff.1 (show validR d = true by rw [Bool.and_eq_true] at hwd; exact hwd.2)
    have hv := well_valid hw
    by_cases hoff : offR l i 0
    · have hn : ¬ (0 ≤ i ∧ i ≤ ((visS l).length : Int)) := by unfold offR at hoff; omega
      rw [left_off hw hn, first1 (by decide)] at hE
      rw [rep_off hw (by rw [Bool.and_eq_true] at hwd; exact hwd.2) hoff, hE]
      exact ⟨rfl, fun _ => rfl, fun h => by cases h⟩
    · have hin := hoff
      unfold offR at hin
      obtain ⟨m, rfl⟩ : ∃ m : Nat, i = (m : Int) := ⟨i.toNat, by omega⟩
      have hm : m ≤ (visS l).length := by omega
      rw [left_par hw hm] at hE ⊢
      simp only at hE ⊢
      rw [first0] at hE
      have hlt : lateP l = timeS l := by unfold lateP; rw [hv]; rfl
      have ht0 := time_pos l
      have ht1 := time_top hv
      rw [hlt] at hE ⊢
      by_cases hL : 10000 < rs.length
      · rw [if_neg (by rw [decide_eq_true_eq]; omega), first1 (by decide)] at hE
        rw [rep_long hwd hoff (.inl hL), hE]
        exact ⟨rfl, fun _ => rfl, fun h => by cases h⟩
      · rw [if_pos (by rw [decide_eq_true_eq]; omega), first0] at hE
        have hnn : ¬ (10000 < rs.length ∨ (10000 : Int) < 0) := by omega
        rcases hal : rs.all R.vld with _ | _
        · rw [hal, if_neg (by decide), first1 (by decide)] at hE
          rw [rep_rune hwd hoff hnn hal, hE]
          exact ⟨rfl, fun _ => rfl, fun h => by cases h⟩
        · rw [hal, if_pos rfl, first0] at hE
          have hw1 : IntKind.i64.wrap (d.2 + (rs.length : Int)) = d.2 + (rs.length : Int) := by
            rcases wrap_cases (x := d.2 + (rs.length : Int)) (by omega) (by omega) with ⟨_, h⟩ | ⟨h, _⟩
            · exact h
            · omega
          have hw2 : IntKind.i64.wrap (d.2 + (rs.length : Int) - 1) = d.2 + (rs.length : Int) - 1 := by
            rcases wrap_cases (x := d.2 + (rs.length : Int) - 1) (by omega) (by omega) with ⟨_, h⟩ | ⟨h, _⟩
            · exact h
            · omega
          have hw3 : IntKind.i64.wrap (timeS l + (rs.length : Int)) = timeS l + (rs.length : Int) := by
            rcases wrap_cases (x := timeS l + (rs.length : Int)) (by omega) (by omega) with ⟨_, h⟩ | ⟨h, _⟩
            · exact h
            · omega
          rw [hw1, hw2, hw3] at hE
          by_cases hex : 4294967295 - d.2 + 1 < (rs.length : Int) ∨ 4611686018427387904 - timeS l < (rs.length : Int)
          · rw [if_neg (by rw [Bool.and_eq_true, decide_eq_true_eq, decide_eq_true_eq]; omega), first1 (by decide)] at hE
            rw [rep_ex hwd hoff hnn hal hex, hE]
            exact ⟨rfl, fun _ => rfl, fun h => by cases h⟩
          · rw [if_pos (by rw [Bool.and_eq_true, decide_eq_true_eq, decide_eq_true_eq]; omega), first0] at hE
            rw [taken_busy hdv.2.2.1 (by omega)] at hE
            rcases hb : busyS l d rs.length with _ | _
            · rw [hb, if_pos (by decide), first0] at hE
              obtain ⟨ok, e⟩ := rep_ok hwd (by exact hoff) hnn hal hex hb
              simp only [Int.toNat_natCast, Int.toNat_zero] at ok e
              rw [e, hE]
              refine ⟨rfl, fun h => absurd rfl h, fun _ => ⟨?_, by omega, by have := hdv.2.2.1; omega, by omega, ht0, by omega⟩⟩
              exact ok.ins
            · rw [hb, if_neg (by decide), first1 (by decide)] at hE
              have hb2 : repP l d (m : Int) 0 rs = ([], 11) := by
                unfold busyS at hb
                rw [List.any_eq_true] at hb
                obtain ⟨k, hk, e⟩ := hb
                exact rep_busy hwd hoff hnn hal hex (List.mem_range.1 hk) e
              rw [hb2, hE]
              exact ⟨rfl, fun _ => rfl, fun h => by cases h⟩
  · rw [if_neg hwd, first1 (by decide)] at hE
    rw [rep_arg (by simpa using hwd), hE]
    exact ⟨rfl, fun _ => rfl, fun h => by cases h⟩
end Go.Proofs.YtkcbekebleodaaaGreat.Ed
end

/-
  Layer 15: package edit's Delete.
-/
section
namespace Go.Proofs.YtkcbekebleodaaaGreat.Ed
set_option linter.unusedVariables false
open Go.RowKit V Go.Shelf Go.Sort D Nd Qs Wk Ix Jn Fo
attribute [local irreducible] Sch.heldN Sch.stepV Sch.stepE

theorem partS_sub : ∀ (l : List Nt) (ds : List Dt), ∀ x ∈ partS l ds, x ∈ l
  | [], _, x, h => by cases h
  | _ :: _, [], x, h => by cases h
  | n :: t, d :: ds, x, h => by
    rw [partS] at h
    split at h
    · rcases List.mem_cons.1 h with rfl | h
      · simp
      · exact List.mem_cons_of_mem _ (partS_sub t ds x h)
    · exact List.mem_cons_of_mem _ (partS_sub t (d :: ds) x h)
set_option maxRecDepth 100000 in
set_option maxHeartbeats 8000000 in
theorem delete_any (l : List Nt) (i n : Int) (a : Option Addr) (c : Nat) (w : World) (hf : ∀ x ∈ l, fitN x) (hx : RowN w a l) (hlx : l.length ≤ 100000)
    (hi1 : -9223372036854775808 ≤ i) (hi2 : i ≤ 9223372036854775807) (hn1 : -9223372036854775808 ≤ n) (hn2 : n ≤ 9223372036854775807) :
    Calls Tryz.prog 19 #[.slice a l.length c, .int .i64 i, .int .i64 n] w fun e w' => ∃ v, e = .returned (.tuple #[v, .int .i64 (delP l i n).2]) ∧ ON w' w.heap.size EN v (delP l i n).1 ∧ Below w.heap.size w w' := by
  have hvl : validS l = true → (visS l).length ≤ 400000 := fun hv => by have := vis_len hv; omega
  have hvl2 : (visS l).length ≤ 400000 ∨ validS l = false := by
    rcases hv : validS l with _ | _
    · exact .inr rfl
    · exact .inl (hvl hv)
  obtain ⟨j, hj⟩ : ∃ j, j = IntKind.i64.wrap (i + n) := ⟨_, rfl⟩
  have HPl : Hid (delE l i n j = (delP l i n).2 ∧ ((delP l i n).2 ≠ 0 → (delP l i n).1 = []) ∧ ((delP l i n).2 = 0 → (Un.idotsI l i j).1 = kdots l i.toNat n.toNat ∧ killP (partS l (setR (kdots l i.toNat n.toNat))) (kdots l i.toNat n.toNat) = delP l i n ∧ (kdots l i.toNat n.toNat).length ≤ 400000 ∧ validS l = true)) := by
    rcases hvl2 with h | h
    · have := del_plain hi1 hi2 hn1 hn2 h
      rw [← hj] at this
      exact this
    · have hw : wellS l = false := by unfold wellS; rw [h]; rfl
      unfold delE delP
      rw [rep_arg (by rw [hw]; rfl), hw, if_neg (by decide), first1 (by decide)]
      exact ⟨rfl, fun _ => rfl, fun h => by cases h⟩
  have HD := Lib.hid (Un.idots_prog l i j a c w hx (by omega))
  have HW := Lib.hid (fun w h => well_any l a c w hf h (by omega))
  have HKd : Hid (∀ w (b : Option Addr) (e : Nat), RowN w a l → RowD w b (kdots l i.toNat n.toNat) → (kdots l i.toNat n.toNat).length ≤ 100000 → Calls Tryz.prog 51 #[.slice a l.length c, .slice b (kdots l i.toNat n.toNat).length e] w fun e w' => ∃ v, e = .returned v ∧ ON w' w.heap.size EN v (partS l (setR (kdots l i.toNat n.toNat))) ∧ Below w.heap.size w w') := fun w b e h1 h2 h3 => part_any l _ a b c e w h1 h2 hlx h3
  have HF : Hid (∀ x ∈ partS l (setR (kdots l i.toNat n.toNat)), fitN x) := fun x hx => hf x (partS_sub _ _ x hx)
  have HFd : Hid (validS l = true → ∀ x ∈ kdots l i.toNat n.toNat, fitD x) := fun hv x hx => by
    obtain ⟨y, -, hy, e⟩ := kdots_mem hv hx
    rw [← e]
    exact (hf y hy).1
  have HPn : Hid ((partS l (setR (kdots l i.toNat n.toNat))).length ≤ 100000) := Nat.le_trans (partS_len _ _) hlx
  have HKn : Hid (validS l = true → (kdots l i.toNat n.toNat).length ≤ 100000) := fun hv => by
    have h1 := vis_len hv
    show _ ≤ _
    unfold kdots
    rw [List.length_map, List.length_take, List.length_drop]
    omega
  have HX := Lib.hid hx
  unfold delE at HPl
  clear hx hlx hf hvl hvl2 hi1 hi2 hn1 hn2
  have hj2 : IntKind.i64.wrap (i + n) = j := hj.symm
  clear hj
  generalize delP l i n = R at *
  generalize kdots l i.toNat n.toNat = KD at *
  generalize partS l (setR KD) = PT at *
  generalize Un.idotsI l i j = I at *
  obtain ⟨DS, e2⟩ := I
  simp only at HPl HD
  generalize wellS l = W at *
  generalize validS l = vv at *
  have H3 : Hid ((if decide (n ≤ 10000) = true then (0 : Int) else 5) = if n ≤ 10000 then 0 else 5) := by show _ = _; simp only [decide_eq_true_eq]
  generalize (if n ≤ 10000 then (0 : Int) else 5) = e3 at *
  go_enter Tryz.func19, Tryz.ntmps19
  go_wp2_with fail
  refine HD.out.mono ?_
  rintro e w2 ⟨v2, rfl, ho, hb⟩
  obtain ⟨a2, c2, rfl, hr2, -⟩ := OD.row ho
  have HR2 := Lib.hid hr2
  have HB2 := Lib.hid hb
  have HX2 := Lib.hid (HX.out.keep hb)
  clear ho hb hr2 HD HX hj2
  go_wp2_with fail
  refine (HW.out _ HX2.out).mono ?_
  rintro e w3 ⟨rfl, hb⟩
  have HB3 := bel_tr HB2 hb
  have HX3 := Lib.hid (HX2.out.keep hb)
  have HR3 := Lib.hid (HR2.out.keep hb)
  clear hb HW HX2 HR2 HB2
  go_wp2_with fail
  refine (unlessE _ _ _).mono ?_
  rintro e w4 ⟨rfl, rfl⟩
  generalize (if W = true then (0 : Int) else 2) = e1 at *
  go_wp2_with fail
  refine (unlessE _ _ _).mono ?_
  rintro e w5 ⟨rfl, rfl⟩
  rw [H3.out]
  have hb := bel_box w5 (.cells ⟨[.int .i64 e1, .int .i64 e2, .int .i64 e3]⟩ 29)
  have HL : Hid (G.RowI .i64 (w5.alloc (.cells ⟨[.int .i64 e1, .int .i64 e2, .int .i64 e3]⟩ 29)) (some ⟨w5.heap.size, 0, none⟩) [e1, e2, e3]) := G.RowI.lit .i64 w5 _ rfl [e1, e2, e3] ⟨[.int .i64 e1, .int .i64 e2, .int .i64 e3]⟩ _ rfl
  have HB6 := bel_tr HB3 hb
  have HX6 := Lib.hid (HX3.out.keep hb)
  have HR6 := Lib.hid (HR3.out.keep hb)
  clear hb HX3 HR3 HB3
  go_wp2_with fail
  refine (firstE_any [e1, e2, e3] _ 0 3 3 rfl _ HL.out (by simp)).mono ?_
  rintro e w7 ⟨rfl, rfl⟩
  clear HL H3
  generalize w5.alloc (.cells ⟨[.int .i64 e1, .int .i64 e2, .int .i64 e3]⟩ 29) = w7 at *
  obtain ⟨hE, hN, hY⟩ := HPl.out
  clear HPl
  rw [hE]
  clear hE
  by_cases hz : R.2 = 0
  · obtain ⟨h1, h2, h3, h4⟩ := hY hz
    clear hY hN
    subst h1
    have HPr := Lib.hid h2
    have HDl : Hid (DS.length ≤ 100000) := HKn.out h4
    have HP := Lib.hid (fun w h1 h2 => HKd.out w a2 c2 h1 h2 HDl.out)
    have HKk := Lib.hid (fun (w : World) (aP : Option Addr) (cP : Nat) (h1 : RowN w aP PT) (h2 : RowD w a2 DS) (h3 : aP = none → cP = 0) => kill_prog PT DS aP a2 cP c2 w HF.out (HFd.out h4) h1 h2 h3 (by have := HPn.out; omega) (by have := HDl.out; omega))
    rw [h2] at HKk
    have hz2 : (R.2 != 0) = false := by rw [hz]; rfl
    clear h2 h3 h4 hz HKd HKn HFd
    go_wp2_with fail
    refine (HP.out _ HX6.out HR6.out).mono ?_
    rintro e w8 ⟨v8, rfl, ho, hb⟩
    obtain ⟨a8, c8, rfl, hr8, hn8, -⟩ := ON.row ho
    have HR8 := Lib.hid (HR6.out.keep hb)
    have HB8 := bel_tr HB6 hb
    have HP8 := Lib.hid hr8
    have HN8 : Hid (a8 = none → c8 = 0) := fun h => (hn8 h).1
    clear ho hb hr8 hn8 HX6 HR6 HB6 HP
    go_wp2_with fail
    refine (HKk.out _ a8 c8 HP8.out HR8.out HN8.out).mono ?_
    rintro e w9 ⟨v9, rfl, ho, hb⟩
    have HO9 : Hid (ON w9 w.heap.size EN v9 R.1) := ho.mono fun x hx => Nat.le_trans HB8.out.size (ho.lt x hx).1
    have HB9 := bel_tr HB8 hb
    clear ho hb
    go_wp2_with fail
    go_ret2
    exact ⟨_, rfl, HO9.out, HB9.out⟩
  · have hz2 : (R.2 != 0) = true := by rw [bne_iff_ne]; exact hz
    have HN := Lib.hid (hN hz)
    clear hY hN hz
    go_wp2_with fail
    go_ret2
    rw [HN.out]
    exact ⟨_, rfl, ON.nil _ _ _, HB6.out⟩
end Go.Proofs.YtkcbekebleodaaaGreat.Ed
end

/-
  Layer 15: package edit's Insert.
-/
section
namespace Go.Proofs.YtkcbekebleodaaaGreat.Ed
set_option linter.unusedVariables false
open Go.RowKit V Go.Shelf Go.Sort D Nd Qs Wk Ix Jn Fo
attribute [local irreducible] Sch.heldN Sch.stepV Sch.stepE

/-- The dot's box. -/
def Ib (g : Nat) (d : Dt) (w : World) : Prop := Un.Bd w g d
section
variable {g : Nat} {d : Dt}
theorem Ib.keep {w w' : World} (h : Ib g d w) (hb : Below w.heap.size w w') : Ib g d w' := Un.Bd.keep h hb
theorem Ib.l : ∀ w, Ib g d w → (Instr.loadAt 25 (.pointer (some ⟨g, 0, none⟩))).run Tryz.prog w = .ok (dv d) w := fun w h => load_dotB h
theorem Ib.lc : ∀ w, Ib g d w → (Instr.loadAt 3 (.pointer (some ⟨g, 1, none⟩))).run Tryz.prog w = .ok (.int .i64 d.2) w := fun w h => by
  have h1 := Un.Bd.c1 h
  go_simp
end
set_option maxRecDepth 100000 in
set_option maxHeartbeats 8000000 in
theorem insert_any (l : List Nt) (d : Dt) (i : Int) (rs : List Int) (a b : Option Addr) (c e : Nat) (w : World) (hf : ∀ x ∈ l, fitN x) (hx : RowN w a l) (hr : G.RowI .i32 w b rs) (hlx : l.length ≤ 100000) (hrl : rs.length ≤ 1000000)
    (hd1 : -9223372036854775808 ≤ d.2) (hd2 : d.2 ≤ 9223372036854775807) :
    Calls Tryz.prog 14 #[.slice a l.length c, dv d, .int .i64 i, .slice b rs.length e] w fun e w' => ∃ v, e = .returned (.tuple #[v, .int .i64 (insP l d i rs).2]) ∧ ON w' w.heap.size EN v (insP l d i rs).1 ∧ Below w.heap.size w w' := by
  have HPl := Lib.hid (ins_plain (l := l) (d := d) (i := i) (rs := rs) hrl hd1 hd2)
  simp only at HPl
  have HB := Lib.hid (bel_box w (.cells #[.int .i64 d.1, .int .i64 d.2] 25))
  have HK := Lib.hid (Un.bd_new w d)
  have HX := Lib.hid (hx.keep HB.out)
  have HR := Lib.hid (hr.keep HB.out (Nat.le_refl _))
  have HLf := Lib.hid (fun w h => Un.leftI_prog l i a c w h (by omega))
  have HLt := Lib.hid (fun w h => latest_any l a c w h (by omega))
  have HWl := Lib.hid (fun w h => well_any l a c w hf h (by omega))
  have HVd := Lib.hid (fun w => valid_any d w)
  have HCr := Lib.hid (fun w h => containsR rs b e w h hrl)
  have HTk := Lib.hid (fun w h => taken_any l d (rs.length : Int) a c w h (by omega))
  have HCh := Lib.hid (fun p t w h h1 h2 h3 h4 h5 => chain_any d p t rs b e w h h1 h2 h3 h4 h5)
  have hri : (rs.length : Int) ≤ 1000000 := by omega
  clear hx hr hlx hf hrl hd1 hd2
  obtain ⟨s1, hs1⟩ : ∃ s, s = IntKind.i64.wrap (d.2 + (rs.length : Int)) := ⟨_, rfl⟩
  rw [← hs1] at HPl
  obtain ⟨s2, hs2⟩ : ∃ s, s = IntKind.i64.wrap (s1 - 1) := ⟨_, rfl⟩
  rw [← hs2] at HPl
  obtain ⟨s3, hs3⟩ : ∃ s, s = IntKind.i64.wrap (lateP l + (rs.length : Int)) := ⟨_, rfl⟩
  rw [← hs3] at HPl
  generalize insP l d i rs = RZ at *
  generalize wellS l = W at *
  generalize validR d = V at *
  generalize rs.all R.vld = al at *
  generalize l.any (takenB d (rs.length : Int)) = tk at *
  generalize Un.leftI l i = LI at *
  obtain ⟨⟨p1, p2⟩, e2⟩ := LI
  simp only at HPl HLf
  generalize lateP l = LT at *
  go_enter Tryz.func14, Tryz.ntmps14
  go_wp2_with fail
  generalize w.alloc (.cells #[.int .i64 d.1, .int .i64 d.2] 25) = w1 at *
  generalize hgg : w.heap.size = g5 at *
  have HGw := Lib.hid hgg
  clear hgg
  refine (HLf.out _ HX.out).mono ?_
  rintro e w2 ⟨rfl, hb⟩
  have hbx := bel_box w2 (.cells #[.int .i64 p1, .int .i64 p2] 25)
  have HP2 : Hid (Un.Bd (w2.alloc (.cells #[.int .i64 p1, .int .i64 p2] 25)) w2.heap.size (p1, p2)) := Un.bd_new w2 (p1, p2)
  have HB2 : Hid (Below g5 w (w2.alloc (.cells #[.int .i64 p1, .int .i64 p2] 25))) := (HB.out.trans (hb.mono (by have h1 := HB.out.size; rw [HGw.out] at h1; exact h1))).trans (hbx.mono (by have h1 := HB.out.size; have h2 := hb.size; rw [HGw.out] at h1; omega))
  have HK2 := Lib.hid ((HK.out.keep hb).keep hbx)
  have HX2 := Lib.hid ((HX.out.keep hb).keep hbx)
  have HR2 := Lib.hid ((HR.out.keep hb (Nat.le_refl _)).keep hbx (Nat.le_refl _))
  clear hb hbx HB HK HX HR HLf
  go_wp2_with fail
  generalize w2.alloc (.cells #[.int .i64 p1, .int .i64 p2] 25) = w3 at *
  generalize w2.heap.size = gP at *
  refine (HLt.out _ HX2.out).mono ?_
  rintro e w4 ⟨rfl, hb⟩
  have HB4 := Lib.hid (HB2.out.trans (hb.mono (by have h1 := HB2.out.size; rw [HGw.out] at h1; omega)))
  have HK4 := Lib.hid (HK2.out.keep hb)
  have HX4 := Lib.hid (HX2.out.keep hb)
  have HR4 := Lib.hid (HR2.out.keep hb (Nat.le_refl _))
  have HP4 := Lib.hid (HP2.out.keep hb)
  clear hb HB2 HK2 HX2 HR2 HP2 HLt
  go_upto_region 3 with fail
  obtain ⟨E, hE⟩ : ∃ E, E = insE W V e2 (decide ((rs.length : Int) ≤ 10000)) al (decide (s2 ≤ 4294967295)) (decide (s3 ≤ 4611686018427387904)) tk := ⟨_, rfl⟩
  rw [← hE] at HPl
  have HE := Lib.hid hE
  clear hE
  have hs1' : IntKind.i64.wrap (d.2 + (rs.length : Int)) = s1 := hs1.symm
  have hs2' : IntKind.i64.wrap (s1 - 1) = s2 := hs2.symm
  have hs3' : IntKind.i64.wrap (LT + (rs.length : Int)) = s3 := hs3.symm
  clear hs1 hs2 hs3
  go_cut [13] from 22 to 61 (fun s wx => s = .int .i64 E ∧ Hid (Below w4.heap.size w4 wx))
  case first =>
    have hd := (Below.refl w4.heap.size w4).drew
    have HQ : Hid (Ib g5 d w4.drew) := Ib.keep HK4.out hd
    have HX := Lib.hid (HX4.out.keep hd)
    have HR := Lib.hid (HR4.out.keep hd (Nat.le_refl _))
    have HBd := Lib.hid hd
    clear hd HK4 HX4 HR4 HP4 HB4 HPl HCh
    unfold insE at HE
    generalize hb5 : decide ((rs.length : Int) ≤ 10000) = b5 at *
    generalize hc1 : decide (s2 ≤ 4294967295) = c1 at *
    generalize hc2 : decide (s3 ≤ 4611686018427387904) = c2 at *
    have HU2 := Lib.hid (unlessE (W && V) 2)
    have HU5 := Lib.hid (unlessE b5 5)
    have HU13 := Lib.hid (unlessE al 13)
    have HU14 := Lib.hid (unlessE (c1 && c2) 14)
    have HU11 := Lib.hid (unlessE (!tk) 11)
    generalize (if (W && V) = true then (0 : Int) else 2) = x2 at *
    generalize (if b5 = true then (0 : Int) else 5) = x5 at *
    generalize (if al = true then (0 : Int) else 13) = x13 at *
    generalize (if (c1 && c2) = true then (0 : Int) else 14) = x14 at *
    generalize (if (!tk) = true then (0 : Int) else 11) = x11 at *
    rcases W with _ | _ <;> rcases c1 with _ | _ <;> simp only [Bool.false_and, Bool.true_and] at HU2 HU14
    · skip
      go_wp2_with fail
      refine Sch.wp_region_tn (Ib g5 d) (.val 0 (.val 7 (.val 8 (.val 9 (.val 10 (.val 12 (.val 16 (.val 17 (.val 18 (.val 19 (.val 20 (.val 21 (.val 22 (.val 31 (.val 32 (.val 33 (.val 34 (.one 1 (.val 2 (.val 3 (.one 4 (.val 5 (.one 6 (.one 11 (.one 13 (.val 14 (.one 15 (.val 23 (.val 24 (.val 25 (.val 26 (.val 27 (.val 28 (.val 29 (.one 30 (.one 35 (.val 36 (.one 37 (.one 38 (.one 39 (.val 40 .done))))))))))))))))))))))))))))))))))))))))) (by kernel_rfl) (by kernel_rfl) HQ.out ?_
      repeat (first
        | (refine Sch.tn_q rfl rfl rfl (fun K hK => ?_); go_big_quiet_op; (first | refine hK _ ?_ | refine ⟨_, fun _ _ => rfl, hK _ ?_⟩); clear hK K)
        | (refine Sch.tn_chk _ _ _ rfl rfl rfl rfl rfl ?_; simp only [Act.put, List.setIfInBounds_toArray, List.set_cons_zero, List.set_cons_succ])
        | (refine Sch.tn_load _ _ _ _ _ rfl rfl rfl rfl (by first | exact Ib.l | exact Ib.lc) rfl ?_; simp only [Act.put, List.setIfInBounds_toArray, List.set_cons_zero, List.set_cons_succ]))
      generalize w4.drew = wd at *
      refine Sch.tn_e rfl rfl (fun K hK => ?_)
      go_wp2_with fail
      refine (HWl.out _ HX.out).mono ?_
      rintro e wn ⟨rfl, hb⟩
      replace HQ := Lib.hid (HQ.out.keep hb)
      replace HX := Lib.hid (HX.out.keep hb)
      replace HR := Lib.hid (HR.out.keep hb (Nat.le_refl _))
      replace HBd := Lib.hid (HBd.out.trans (hb.mono HBd.out.size))
      clear hb
      refine hK _ _ HQ.out ?_
      clear hK K
      repeat (first
        | (refine Sch.tn_q rfl rfl rfl (fun K hK => ?_); go_big_quiet_op; (first | refine hK _ ?_ | refine ⟨_, fun _ _ => rfl, hK _ ?_⟩); clear hK K)
        | (refine Sch.tn_chk _ _ _ rfl rfl rfl rfl rfl ?_; simp only [Act.put, List.setIfInBounds_toArray, List.set_cons_zero, List.set_cons_succ])
        | (refine Sch.tn_load _ _ _ _ _ rfl rfl rfl rfl (by first | exact Ib.l | exact Ib.lc) rfl ?_; simp only [Act.put, List.setIfInBounds_toArray, List.set_cons_zero, List.set_cons_succ])
        | (refine Sch.tn_s _ rfl rfl rfl ?_; simp only [Act.put, List.setIfInBounds_toArray, List.set_cons_zero, List.set_cons_succ])
        | (refine Sch.tn_se _ rfl rfl rfl ?_; simp only [Act.put, List.setIfInBounds_toArray, List.set_cons_zero, List.set_cons_succ]))
      refine Sch.tn_e rfl rfl (fun K hK => ?_)
      go_wp2_with fail
      refine (HU2.out _).mono ?_
      rintro e wu0 ⟨rfl, rfl⟩
      refine hK _ _ HQ.out ?_
      clear hK K
      repeat (first
        | (refine Sch.tn_q rfl rfl rfl (fun K hK => ?_); go_big_quiet_op; (first | refine hK _ ?_ | refine ⟨_, fun _ _ => rfl, hK _ ?_⟩); clear hK K)
        | (refine Sch.tn_chk _ _ _ rfl rfl rfl rfl rfl ?_; simp only [Act.put, List.setIfInBounds_toArray, List.set_cons_zero, List.set_cons_succ])
        | (refine Sch.tn_load _ _ _ _ _ rfl rfl rfl rfl (by first | exact Ib.l | exact Ib.lc) rfl ?_; simp only [Act.put, List.setIfInBounds_toArray, List.set_cons_zero, List.set_cons_succ])
        | (refine Sch.tn_s _ rfl rfl rfl ?_; simp only [Act.put, List.setIfInBounds_toArray, List.set_cons_zero, List.set_cons_succ])
        | (refine Sch.tn_se _ rfl rfl rfl ?_; simp only [Act.put, List.setIfInBounds_toArray, List.set_cons_zero, List.set_cons_succ]))
      refine Sch.tn_e rfl rfl (fun K hK => ?_)
      go_wp2_with fail
      refine (HU5.out _).mono ?_
      rintro e wu1 ⟨rfl, rfl⟩
      refine hK _ _ HQ.out ?_
      clear hK K
      repeat (first
        | (refine Sch.tn_q rfl rfl rfl (fun K hK => ?_); go_big_quiet_op; (first | refine hK _ ?_ | refine ⟨_, fun _ _ => rfl, hK _ ?_⟩); clear hK K)
        | (refine Sch.tn_chk _ _ _ rfl rfl rfl rfl rfl ?_; simp only [Act.put, List.setIfInBounds_toArray, List.set_cons_zero, List.set_cons_succ])
        | (refine Sch.tn_load _ _ _ _ _ rfl rfl rfl rfl (by first | exact Ib.l | exact Ib.lc) rfl ?_; simp only [Act.put, List.setIfInBounds_toArray, List.set_cons_zero, List.set_cons_succ])
        | (refine Sch.tn_s _ rfl rfl rfl ?_; simp only [Act.put, List.setIfInBounds_toArray, List.set_cons_zero, List.set_cons_succ])
        | (refine Sch.tn_se _ rfl rfl rfl ?_; simp only [Act.put, List.setIfInBounds_toArray, List.set_cons_zero, List.set_cons_succ]))
      refine Sch.tn_e rfl rfl (fun K hK => ?_)
      go_wp2_with fail
      refine (HCr.out _ HR.out).mono ?_
      rintro e wc ⟨rfl, rfl⟩
      refine hK _ _ HQ.out ?_
      clear hK K
      repeat (first
        | (refine Sch.tn_q rfl rfl rfl (fun K hK => ?_); go_big_quiet_op; (first | refine hK _ ?_ | refine ⟨_, fun _ _ => rfl, hK _ ?_⟩); clear hK K)
        | (refine Sch.tn_chk _ _ _ rfl rfl rfl rfl rfl ?_; simp only [Act.put, List.setIfInBounds_toArray, List.set_cons_zero, List.set_cons_succ])
        | (refine Sch.tn_load _ _ _ _ _ rfl rfl rfl rfl (by first | exact Ib.l | exact Ib.lc) rfl ?_; simp only [Act.put, List.setIfInBounds_toArray, List.set_cons_zero, List.set_cons_succ])
        | (refine Sch.tn_s _ rfl rfl rfl ?_; simp only [Act.put, List.setIfInBounds_toArray, List.set_cons_zero, List.set_cons_succ])
        | (refine Sch.tn_se _ rfl rfl rfl ?_; simp only [Act.put, List.setIfInBounds_toArray, List.set_cons_zero, List.set_cons_succ]))
      refine Sch.tn_e rfl rfl (fun K hK => ?_)
      go_wp2_with fail
      refine (HU13.out _).mono ?_
      rintro e wu2 ⟨rfl, rfl⟩
      refine hK _ _ HQ.out ?_
      clear hK K
      repeat (first
        | (refine Sch.tn_q rfl rfl rfl (fun K hK => ?_); go_big_quiet_op; (first | refine hK _ ?_ | refine ⟨_, fun _ _ => rfl, hK _ ?_⟩); clear hK K)
        | (refine Sch.tn_chk _ _ _ rfl rfl rfl rfl rfl ?_; simp only [Act.put, List.setIfInBounds_toArray, List.set_cons_zero, List.set_cons_succ])
        | (refine Sch.tn_load _ _ _ _ _ rfl rfl rfl rfl (by first | exact Ib.l | exact Ib.lc) rfl ?_; simp only [Act.put, List.setIfInBounds_toArray, List.set_cons_zero, List.set_cons_succ])
        | (refine Sch.tn_s _ rfl rfl rfl ?_; simp only [Act.put, List.setIfInBounds_toArray, List.set_cons_zero, List.set_cons_succ])
        | (refine Sch.tn_se _ rfl rfl rfl ?_; simp only [Act.put, List.setIfInBounds_toArray, List.set_cons_zero, List.set_cons_succ]))
      refine Sch.tn_e rfl rfl (fun K hK => ?_)
      go_wp2_with fail
      refine (HU14.out _).mono ?_
      rintro e wu3 ⟨rfl, rfl⟩
      refine hK _ _ HQ.out ?_
      clear hK K
      repeat (first
        | (refine Sch.tn_q rfl rfl rfl (fun K hK => ?_); go_big_quiet_op; (first | refine hK _ ?_ | refine ⟨_, fun _ _ => rfl, hK _ ?_⟩); clear hK K)
        | (refine Sch.tn_chk _ _ _ rfl rfl rfl rfl rfl ?_; simp only [Act.put, List.setIfInBounds_toArray, List.set_cons_zero, List.set_cons_succ])
        | (refine Sch.tn_load _ _ _ _ _ rfl rfl rfl rfl (by first | exact Ib.l | exact Ib.lc) rfl ?_; simp only [Act.put, List.setIfInBounds_toArray, List.set_cons_zero, List.set_cons_succ])
        | (refine Sch.tn_s _ rfl rfl rfl ?_; simp only [Act.put, List.setIfInBounds_toArray, List.set_cons_zero, List.set_cons_succ])
        | (refine Sch.tn_se _ rfl rfl rfl ?_; simp only [Act.put, List.setIfInBounds_toArray, List.set_cons_zero, List.set_cons_succ]))
      refine Sch.tn_e rfl rfl (fun K hK => ?_)
      go_wp2_with fail
      refine (HTk.out _ HX.out).mono ?_
      rintro e wn ⟨rfl, hb⟩
      replace HQ := Lib.hid (HQ.out.keep hb)
      replace HX := Lib.hid (HX.out.keep hb)
      replace HR := Lib.hid (HR.out.keep hb (Nat.le_refl _))
      replace HBd := Lib.hid (HBd.out.trans (hb.mono HBd.out.size))
      clear hb
      refine hK _ _ HQ.out ?_
      clear hK K
      repeat (first
        | (refine Sch.tn_q rfl rfl rfl (fun K hK => ?_); go_big_quiet_op; (first | refine hK _ ?_ | refine ⟨_, fun _ _ => rfl, hK _ ?_⟩); clear hK K)
        | (refine Sch.tn_chk _ _ _ rfl rfl rfl rfl rfl ?_; simp only [Act.put, List.setIfInBounds_toArray, List.set_cons_zero, List.set_cons_succ])
        | (refine Sch.tn_load _ _ _ _ _ rfl rfl rfl rfl (by first | exact Ib.l | exact Ib.lc) rfl ?_; simp only [Act.put, List.setIfInBounds_toArray, List.set_cons_zero, List.set_cons_succ])
        | (refine Sch.tn_s _ rfl rfl rfl ?_; simp only [Act.put, List.setIfInBounds_toArray, List.set_cons_zero, List.set_cons_succ])
        | (refine Sch.tn_se _ rfl rfl rfl ?_; simp only [Act.put, List.setIfInBounds_toArray, List.set_cons_zero, List.set_cons_succ]))
      refine Sch.tn_e rfl rfl (fun K hK => ?_)
      go_wp2_with fail
      refine (HU11.out _).mono ?_
      rintro e wu4 ⟨rfl, rfl⟩
      refine hK _ _ HQ.out ?_
      clear hK K
      repeat (first
        | (refine Sch.tn_q rfl rfl rfl (fun K hK => ?_); go_big_quiet_op; (first | refine hK _ ?_ | refine ⟨_, fun _ _ => rfl, hK _ ?_⟩); clear hK K)
        | (refine Sch.tn_chk _ _ _ rfl rfl rfl rfl rfl ?_; simp only [Act.put, List.setIfInBounds_toArray, List.set_cons_zero, List.set_cons_succ])
        | (refine Sch.tn_load _ _ _ _ _ rfl rfl rfl rfl (by first | exact Ib.l | exact Ib.lc) rfl ?_; simp only [Act.put, List.setIfInBounds_toArray, List.set_cons_zero, List.set_cons_succ])
        | (refine Sch.tn_s _ rfl rfl rfl ?_; simp only [Act.put, List.setIfInBounds_toArray, List.set_cons_zero, List.set_cons_succ])
        | (refine Sch.tn_se _ rfl rfl rfl ?_; simp only [Act.put, List.setIfInBounds_toArray, List.set_cons_zero, List.set_cons_succ]))
      have hb := bel_box wu4 (.cells ⟨[.int .i64 x2, .int .i64 e2, .int .i64 x5, .int .i64 x13, .int .i64 x14, .int .i64 x11]⟩ 29)
      have HL : Hid (G.RowI .i64 (wu4.alloc (.cells ⟨[.int .i64 x2, .int .i64 e2, .int .i64 x5, .int .i64 x13, .int .i64 x14, .int .i64 x11]⟩ 29)) (some ⟨wu4.heap.size, 0, none⟩) [x2, e2, x5, x13, x14, x11]) := G.RowI.lit .i64 wu4 _ rfl [x2, e2, x5, x13, x14, x11] ⟨[.int .i64 x2, .int .i64 e2, .int .i64 x5, .int .i64 x13, .int .i64 x14, .int .i64 x11]⟩ _ rfl
      replace HQ := Lib.hid (HQ.out.keep hb)
      replace HBd := Lib.hid (HBd.out.trans (hb.mono HBd.out.size))
      clear hb
      refine Sch.tn_e rfl rfl (fun K hK => ?_)
      go_wp2_with fail
      refine hK _ _ HQ.out ?_
      clear hK K
      generalize wu4.alloc (.cells ⟨[.int .i64 x2, .int .i64 e2, .int .i64 x5, .int .i64 x13, .int .i64 x14, .int .i64 x11]⟩ 29) = wz at *
      generalize wu4.heap.size = gz at *
      refine Sch.tn_e rfl rfl (fun K hK => ?_)
      go_wp2_with fail
      refine (firstE_any [x2, e2, x5, x13, x14, x11] gz 0 6 6 rfl wz HL.out (by simp)).mono ?_
      rintro e wf ⟨rfl, rfl⟩
      refine hK _ _ HQ.out ?_
      clear hK K
      repeat (first
        | (refine Sch.tn_q rfl rfl rfl (fun K hK => ?_); go_big_quiet_op; (first | refine hK _ ?_ | refine ⟨_, fun _ _ => rfl, hK _ ?_⟩); clear hK K)
        | (refine Sch.tn_chk _ _ _ rfl rfl rfl rfl rfl ?_; simp only [Act.put, List.setIfInBounds_toArray, List.set_cons_zero, List.set_cons_succ])
        | (refine Sch.tn_load _ _ _ _ _ rfl rfl rfl rfl (by first | exact Ib.l | exact Ib.lc) rfl ?_; simp only [Act.put, List.setIfInBounds_toArray, List.set_cons_zero, List.set_cons_succ])
        | (refine Sch.tn_s _ rfl rfl rfl ?_; simp only [Act.put, List.setIfInBounds_toArray, List.set_cons_zero, List.set_cons_succ])
        | (refine Sch.tn_se _ rfl rfl rfl ?_; simp only [Act.put, List.setIfInBounds_toArray, List.set_cons_zero, List.set_cons_succ]))
      refine Sch.tn_n ?_
      go_wp2_with fail
      go_meet
      exact ⟨by rw [HE.out], HBd.out⟩
    · skip
      go_wp2_with fail
      refine Sch.wp_region_tn (Ib g5 d) (.val 0 (.val 7 (.val 8 (.val 9 (.val 10 (.val 12 (.val 16 (.val 17 (.val 18 (.val 19 (.val 20 (.val 21 (.val 22 (.val 31 (.val 32 (.val 33 (.val 34 (.one 1 (.val 2 (.val 3 (.one 4 (.val 5 (.one 6 (.one 11 (.one 13 (.val 14 (.one 15 (.val 23 (.val 24 (.val 25 (.val 26 (.val 27 (.val 28 (.val 29 (.one 30 (.one 35 (.val 36 (.one 37 (.one 38 (.one 39 (.val 40 .done))))))))))))))))))))))))))))))))))))))))) (by kernel_rfl) (by kernel_rfl) HQ.out ?_
      repeat (first
        | (refine Sch.tn_q rfl rfl rfl (fun K hK => ?_); go_big_quiet_op; (first | refine hK _ ?_ | refine ⟨_, fun _ _ => rfl, hK _ ?_⟩); clear hK K)
        | (refine Sch.tn_chk _ _ _ rfl rfl rfl rfl rfl ?_; simp only [Act.put, List.setIfInBounds_toArray, List.set_cons_zero, List.set_cons_succ])
        | (refine Sch.tn_load _ _ _ _ _ rfl rfl rfl rfl (by first | exact Ib.l | exact Ib.lc) rfl ?_; simp only [Act.put, List.setIfInBounds_toArray, List.set_cons_zero, List.set_cons_succ]))
      generalize w4.drew = wd at *
      refine Sch.tn_e rfl rfl (fun K hK => ?_)
      go_wp2_with fail
      refine (HWl.out _ HX.out).mono ?_
      rintro e wn ⟨rfl, hb⟩
      replace HQ := Lib.hid (HQ.out.keep hb)
      replace HX := Lib.hid (HX.out.keep hb)
      replace HR := Lib.hid (HR.out.keep hb (Nat.le_refl _))
      replace HBd := Lib.hid (HBd.out.trans (hb.mono HBd.out.size))
      clear hb
      refine hK _ _ HQ.out ?_
      clear hK K
      repeat (first
        | (refine Sch.tn_q rfl rfl rfl (fun K hK => ?_); go_big_quiet_op; (first | refine hK _ ?_ | refine ⟨_, fun _ _ => rfl, hK _ ?_⟩); clear hK K)
        | (refine Sch.tn_chk _ _ _ rfl rfl rfl rfl rfl ?_; simp only [Act.put, List.setIfInBounds_toArray, List.set_cons_zero, List.set_cons_succ])
        | (refine Sch.tn_load _ _ _ _ _ rfl rfl rfl rfl (by first | exact Ib.l | exact Ib.lc) rfl ?_; simp only [Act.put, List.setIfInBounds_toArray, List.set_cons_zero, List.set_cons_succ])
        | (refine Sch.tn_s _ rfl rfl rfl ?_; simp only [Act.put, List.setIfInBounds_toArray, List.set_cons_zero, List.set_cons_succ])
        | (refine Sch.tn_se _ rfl rfl rfl ?_; simp only [Act.put, List.setIfInBounds_toArray, List.set_cons_zero, List.set_cons_succ]))
      refine Sch.tn_e rfl rfl (fun K hK => ?_)
      go_wp2_with fail
      refine (HU2.out _).mono ?_
      rintro e wu0 ⟨rfl, rfl⟩
      refine hK _ _ HQ.out ?_
      clear hK K
      repeat (first
        | (refine Sch.tn_q rfl rfl rfl (fun K hK => ?_); go_big_quiet_op; (first | refine hK _ ?_ | refine ⟨_, fun _ _ => rfl, hK _ ?_⟩); clear hK K)
        | (refine Sch.tn_chk _ _ _ rfl rfl rfl rfl rfl ?_; simp only [Act.put, List.setIfInBounds_toArray, List.set_cons_zero, List.set_cons_succ])
        | (refine Sch.tn_load _ _ _ _ _ rfl rfl rfl rfl (by first | exact Ib.l | exact Ib.lc) rfl ?_; simp only [Act.put, List.setIfInBounds_toArray, List.set_cons_zero, List.set_cons_succ])
        | (refine Sch.tn_s _ rfl rfl rfl ?_; simp only [Act.put, List.setIfInBounds_toArray, List.set_cons_zero, List.set_cons_succ])
        | (refine Sch.tn_se _ rfl rfl rfl ?_; simp only [Act.put, List.setIfInBounds_toArray, List.set_cons_zero, List.set_cons_succ]))
      refine Sch.tn_e rfl rfl (fun K hK => ?_)
      go_wp2_with fail
      refine (HU5.out _).mono ?_
      rintro e wu1 ⟨rfl, rfl⟩
      refine hK _ _ HQ.out ?_
      clear hK K
      repeat (first
        | (refine Sch.tn_q rfl rfl rfl (fun K hK => ?_); go_big_quiet_op; (first | refine hK _ ?_ | refine ⟨_, fun _ _ => rfl, hK _ ?_⟩); clear hK K)
        | (refine Sch.tn_chk _ _ _ rfl rfl rfl rfl rfl ?_; simp only [Act.put, List.setIfInBounds_toArray, List.set_cons_zero, List.set_cons_succ])
        | (refine Sch.tn_load _ _ _ _ _ rfl rfl rfl rfl (by first | exact Ib.l | exact Ib.lc) rfl ?_; simp only [Act.put, List.setIfInBounds_toArray, List.set_cons_zero, List.set_cons_succ])
        | (refine Sch.tn_s _ rfl rfl rfl ?_; simp only [Act.put, List.setIfInBounds_toArray, List.set_cons_zero, List.set_cons_succ])
        | (refine Sch.tn_se _ rfl rfl rfl ?_; simp only [Act.put, List.setIfInBounds_toArray, List.set_cons_zero, List.set_cons_succ]))
      refine Sch.tn_e rfl rfl (fun K hK => ?_)
      go_wp2_with fail
      refine (HCr.out _ HR.out).mono ?_
      rintro e wc ⟨rfl, rfl⟩
      refine hK _ _ HQ.out ?_
      clear hK K
      repeat (first
        | (refine Sch.tn_q rfl rfl rfl (fun K hK => ?_); go_big_quiet_op; (first | refine hK _ ?_ | refine ⟨_, fun _ _ => rfl, hK _ ?_⟩); clear hK K)
        | (refine Sch.tn_chk _ _ _ rfl rfl rfl rfl rfl ?_; simp only [Act.put, List.setIfInBounds_toArray, List.set_cons_zero, List.set_cons_succ])
        | (refine Sch.tn_load _ _ _ _ _ rfl rfl rfl rfl (by first | exact Ib.l | exact Ib.lc) rfl ?_; simp only [Act.put, List.setIfInBounds_toArray, List.set_cons_zero, List.set_cons_succ])
        | (refine Sch.tn_s _ rfl rfl rfl ?_; simp only [Act.put, List.setIfInBounds_toArray, List.set_cons_zero, List.set_cons_succ])
        | (refine Sch.tn_se _ rfl rfl rfl ?_; simp only [Act.put, List.setIfInBounds_toArray, List.set_cons_zero, List.set_cons_succ]))
      refine Sch.tn_e rfl rfl (fun K hK => ?_)
      go_wp2_with fail
      refine (HU13.out _).mono ?_
      rintro e wu2 ⟨rfl, rfl⟩
      refine hK _ _ HQ.out ?_
      clear hK K
      repeat (first
        | (refine Sch.tn_q rfl rfl rfl (fun K hK => ?_); go_big_quiet_op; (first | refine hK _ ?_ | refine ⟨_, fun _ _ => rfl, hK _ ?_⟩); clear hK K)
        | (refine Sch.tn_chk _ _ _ rfl rfl rfl rfl rfl ?_; simp only [Act.put, List.setIfInBounds_toArray, List.set_cons_zero, List.set_cons_succ])
        | (refine Sch.tn_load _ _ _ _ _ rfl rfl rfl rfl (by first | exact Ib.l | exact Ib.lc) rfl ?_; simp only [Act.put, List.setIfInBounds_toArray, List.set_cons_zero, List.set_cons_succ])
        | (refine Sch.tn_s _ rfl rfl rfl ?_; simp only [Act.put, List.setIfInBounds_toArray, List.set_cons_zero, List.set_cons_succ])
        | (refine Sch.tn_se _ rfl rfl rfl ?_; simp only [Act.put, List.setIfInBounds_toArray, List.set_cons_zero, List.set_cons_succ]))
      refine Sch.tn_e rfl rfl (fun K hK => ?_)
      go_wp2_with fail
      refine (HU14.out _).mono ?_
      rintro e wu3 ⟨rfl, rfl⟩
      refine hK _ _ HQ.out ?_
      clear hK K
      repeat (first
        | (refine Sch.tn_q rfl rfl rfl (fun K hK => ?_); go_big_quiet_op; (first | refine hK _ ?_ | refine ⟨_, fun _ _ => rfl, hK _ ?_⟩); clear hK K)
        | (refine Sch.tn_chk _ _ _ rfl rfl rfl rfl rfl ?_; simp only [Act.put, List.setIfInBounds_toArray, List.set_cons_zero, List.set_cons_succ])
        | (refine Sch.tn_load _ _ _ _ _ rfl rfl rfl rfl (by first | exact Ib.l | exact Ib.lc) rfl ?_; simp only [Act.put, List.setIfInBounds_toArray, List.set_cons_zero, List.set_cons_succ])
        | (refine Sch.tn_s _ rfl rfl rfl ?_; simp only [Act.put, List.setIfInBounds_toArray, List.set_cons_zero, List.set_cons_succ])
        | (refine Sch.tn_se _ rfl rfl rfl ?_; simp only [Act.put, List.setIfInBounds_toArray, List.set_cons_zero, List.set_cons_succ]))
      refine Sch.tn_e rfl rfl (fun K hK => ?_)
      go_wp2_with fail
      refine (HTk.out _ HX.out).mono ?_
      rintro e wn ⟨rfl, hb⟩
      replace HQ := Lib.hid (HQ.out.keep hb)
      replace HX := Lib.hid (HX.out.keep hb)
      replace HR := Lib.hid (HR.out.keep hb (Nat.le_refl _))
      replace HBd := Lib.hid (HBd.out.trans (hb.mono HBd.out.size))
      clear hb
      refine hK _ _ HQ.out ?_
      clear hK K
      repeat (first
        | (refine Sch.tn_q rfl rfl rfl (fun K hK => ?_); go_big_quiet_op; (first | refine hK _ ?_ | refine ⟨_, fun _ _ => rfl, hK _ ?_⟩); clear hK K)
        | (refine Sch.tn_chk _ _ _ rfl rfl rfl rfl rfl ?_; simp only [Act.put, List.setIfInBounds_toArray, List.set_cons_zero, List.set_cons_succ])
        | (refine Sch.tn_load _ _ _ _ _ rfl rfl rfl rfl (by first | exact Ib.l | exact Ib.lc) rfl ?_; simp only [Act.put, List.setIfInBounds_toArray, List.set_cons_zero, List.set_cons_succ])
        | (refine Sch.tn_s _ rfl rfl rfl ?_; simp only [Act.put, List.setIfInBounds_toArray, List.set_cons_zero, List.set_cons_succ])
        | (refine Sch.tn_se _ rfl rfl rfl ?_; simp only [Act.put, List.setIfInBounds_toArray, List.set_cons_zero, List.set_cons_succ]))
      refine Sch.tn_e rfl rfl (fun K hK => ?_)
      go_wp2_with fail
      refine (HU11.out _).mono ?_
      rintro e wu4 ⟨rfl, rfl⟩
      refine hK _ _ HQ.out ?_
      clear hK K
      repeat (first
        | (refine Sch.tn_q rfl rfl rfl (fun K hK => ?_); go_big_quiet_op; (first | refine hK _ ?_ | refine ⟨_, fun _ _ => rfl, hK _ ?_⟩); clear hK K)
        | (refine Sch.tn_chk _ _ _ rfl rfl rfl rfl rfl ?_; simp only [Act.put, List.setIfInBounds_toArray, List.set_cons_zero, List.set_cons_succ])
        | (refine Sch.tn_load _ _ _ _ _ rfl rfl rfl rfl (by first | exact Ib.l | exact Ib.lc) rfl ?_; simp only [Act.put, List.setIfInBounds_toArray, List.set_cons_zero, List.set_cons_succ])
        | (refine Sch.tn_s _ rfl rfl rfl ?_; simp only [Act.put, List.setIfInBounds_toArray, List.set_cons_zero, List.set_cons_succ])
        | (refine Sch.tn_se _ rfl rfl rfl ?_; simp only [Act.put, List.setIfInBounds_toArray, List.set_cons_zero, List.set_cons_succ]))
      have hb := bel_box wu4 (.cells ⟨[.int .i64 x2, .int .i64 e2, .int .i64 x5, .int .i64 x13, .int .i64 x14, .int .i64 x11]⟩ 29)
      have HL : Hid (G.RowI .i64 (wu4.alloc (.cells ⟨[.int .i64 x2, .int .i64 e2, .int .i64 x5, .int .i64 x13, .int .i64 x14, .int .i64 x11]⟩ 29)) (some ⟨wu4.heap.size, 0, none⟩) [x2, e2, x5, x13, x14, x11]) := G.RowI.lit .i64 wu4 _ rfl [x2, e2, x5, x13, x14, x11] ⟨[.int .i64 x2, .int .i64 e2, .int .i64 x5, .int .i64 x13, .int .i64 x14, .int .i64 x11]⟩ _ rfl
      replace HQ := Lib.hid (HQ.out.keep hb)
      replace HBd := Lib.hid (HBd.out.trans (hb.mono HBd.out.size))
      clear hb
      refine Sch.tn_e rfl rfl (fun K hK => ?_)
      go_wp2_with fail
      refine hK _ _ HQ.out ?_
      clear hK K
      generalize wu4.alloc (.cells ⟨[.int .i64 x2, .int .i64 e2, .int .i64 x5, .int .i64 x13, .int .i64 x14, .int .i64 x11]⟩ 29) = wz at *
      generalize wu4.heap.size = gz at *
      refine Sch.tn_e rfl rfl (fun K hK => ?_)
      go_wp2_with fail
      refine (firstE_any [x2, e2, x5, x13, x14, x11] gz 0 6 6 rfl wz HL.out (by simp)).mono ?_
      rintro e wf ⟨rfl, rfl⟩
      refine hK _ _ HQ.out ?_
      clear hK K
      repeat (first
        | (refine Sch.tn_q rfl rfl rfl (fun K hK => ?_); go_big_quiet_op; (first | refine hK _ ?_ | refine ⟨_, fun _ _ => rfl, hK _ ?_⟩); clear hK K)
        | (refine Sch.tn_chk _ _ _ rfl rfl rfl rfl rfl ?_; simp only [Act.put, List.setIfInBounds_toArray, List.set_cons_zero, List.set_cons_succ])
        | (refine Sch.tn_load _ _ _ _ _ rfl rfl rfl rfl (by first | exact Ib.l | exact Ib.lc) rfl ?_; simp only [Act.put, List.setIfInBounds_toArray, List.set_cons_zero, List.set_cons_succ])
        | (refine Sch.tn_s _ rfl rfl rfl ?_; simp only [Act.put, List.setIfInBounds_toArray, List.set_cons_zero, List.set_cons_succ])
        | (refine Sch.tn_se _ rfl rfl rfl ?_; simp only [Act.put, List.setIfInBounds_toArray, List.set_cons_zero, List.set_cons_succ]))
      refine Sch.tn_n ?_
      go_wp2_with fail
      go_meet
      exact ⟨by rw [HE.out], HBd.out⟩
    · skip
      go_wp2_with fail
      refine Sch.wp_region_tn (Ib g5 d) (.val 0 (.val 7 (.val 8 (.val 9 (.val 10 (.val 12 (.val 16 (.val 17 (.val 18 (.val 19 (.val 20 (.val 21 (.val 22 (.val 31 (.val 32 (.val 33 (.val 34 (.one 1 (.val 2 (.val 3 (.one 4 (.val 5 (.one 6 (.one 11 (.one 13 (.val 14 (.one 15 (.val 23 (.val 24 (.val 25 (.val 26 (.val 27 (.val 28 (.val 29 (.one 30 (.one 35 (.val 36 (.one 37 (.one 38 (.one 39 (.val 40 .done))))))))))))))))))))))))))))))))))))))))) (by kernel_rfl) (by kernel_rfl) HQ.out ?_
      repeat (first
        | (refine Sch.tn_q rfl rfl rfl (fun K hK => ?_); go_big_quiet_op; (first | refine hK _ ?_ | refine ⟨_, fun _ _ => rfl, hK _ ?_⟩); clear hK K)
        | (refine Sch.tn_chk _ _ _ rfl rfl rfl rfl rfl ?_; simp only [Act.put, List.setIfInBounds_toArray, List.set_cons_zero, List.set_cons_succ])
        | (refine Sch.tn_load _ _ _ _ _ rfl rfl rfl rfl (by first | exact Ib.l | exact Ib.lc) rfl ?_; simp only [Act.put, List.setIfInBounds_toArray, List.set_cons_zero, List.set_cons_succ]))
      generalize w4.drew = wd at *
      refine Sch.tn_e rfl rfl (fun K hK => ?_)
      go_wp2_with fail
      refine (HWl.out _ HX.out).mono ?_
      rintro e wn ⟨rfl, hb⟩
      replace HQ := Lib.hid (HQ.out.keep hb)
      replace HX := Lib.hid (HX.out.keep hb)
      replace HR := Lib.hid (HR.out.keep hb (Nat.le_refl _))
      replace HBd := Lib.hid (HBd.out.trans (hb.mono HBd.out.size))
      clear hb
      refine hK _ _ HQ.out ?_
      clear hK K
      repeat (first
        | (refine Sch.tn_q rfl rfl rfl (fun K hK => ?_); go_big_quiet_op; (first | refine hK _ ?_ | refine ⟨_, fun _ _ => rfl, hK _ ?_⟩); clear hK K)
        | (refine Sch.tn_chk _ _ _ rfl rfl rfl rfl rfl ?_; simp only [Act.put, List.setIfInBounds_toArray, List.set_cons_zero, List.set_cons_succ])
        | (refine Sch.tn_load _ _ _ _ _ rfl rfl rfl rfl (by first | exact Ib.l | exact Ib.lc) rfl ?_; simp only [Act.put, List.setIfInBounds_toArray, List.set_cons_zero, List.set_cons_succ])
        | (refine Sch.tn_s _ rfl rfl rfl ?_; simp only [Act.put, List.setIfInBounds_toArray, List.set_cons_zero, List.set_cons_succ])
        | (refine Sch.tn_se _ rfl rfl rfl ?_; simp only [Act.put, List.setIfInBounds_toArray, List.set_cons_zero, List.set_cons_succ]))
      refine Sch.tn_e rfl rfl (fun K hK => ?_)
      go_wp2_with fail
      refine (HVd.out _).mono ?_
      rintro e wn ⟨rfl, hb⟩
      replace HQ := Lib.hid (HQ.out.keep hb)
      replace HX := Lib.hid (HX.out.keep hb)
      replace HR := Lib.hid (HR.out.keep hb (Nat.le_refl _))
      replace HBd := Lib.hid (HBd.out.trans (hb.mono HBd.out.size))
      clear hb
      refine hK _ _ HQ.out ?_
      clear hK K
      repeat (first
        | (refine Sch.tn_q rfl rfl rfl (fun K hK => ?_); go_big_quiet_op; (first | refine hK _ ?_ | refine ⟨_, fun _ _ => rfl, hK _ ?_⟩); clear hK K)
        | (refine Sch.tn_chk _ _ _ rfl rfl rfl rfl rfl ?_; simp only [Act.put, List.setIfInBounds_toArray, List.set_cons_zero, List.set_cons_succ])
        | (refine Sch.tn_load _ _ _ _ _ rfl rfl rfl rfl (by first | exact Ib.l | exact Ib.lc) rfl ?_; simp only [Act.put, List.setIfInBounds_toArray, List.set_cons_zero, List.set_cons_succ])
        | (refine Sch.tn_s _ rfl rfl rfl ?_; simp only [Act.put, List.setIfInBounds_toArray, List.set_cons_zero, List.set_cons_succ])
        | (refine Sch.tn_se _ rfl rfl rfl ?_; simp only [Act.put, List.setIfInBounds_toArray, List.set_cons_zero, List.set_cons_succ]))
      refine Sch.tn_e rfl rfl (fun K hK => ?_)
      go_wp2_with fail
      refine (HU2.out _).mono ?_
      rintro e wu0 ⟨rfl, rfl⟩
      refine hK _ _ HQ.out ?_
      clear hK K
      repeat (first
        | (refine Sch.tn_q rfl rfl rfl (fun K hK => ?_); go_big_quiet_op; (first | refine hK _ ?_ | refine ⟨_, fun _ _ => rfl, hK _ ?_⟩); clear hK K)
        | (refine Sch.tn_chk _ _ _ rfl rfl rfl rfl rfl ?_; simp only [Act.put, List.setIfInBounds_toArray, List.set_cons_zero, List.set_cons_succ])
        | (refine Sch.tn_load _ _ _ _ _ rfl rfl rfl rfl (by first | exact Ib.l | exact Ib.lc) rfl ?_; simp only [Act.put, List.setIfInBounds_toArray, List.set_cons_zero, List.set_cons_succ])
        | (refine Sch.tn_s _ rfl rfl rfl ?_; simp only [Act.put, List.setIfInBounds_toArray, List.set_cons_zero, List.set_cons_succ])
        | (refine Sch.tn_se _ rfl rfl rfl ?_; simp only [Act.put, List.setIfInBounds_toArray, List.set_cons_zero, List.set_cons_succ]))
      refine Sch.tn_e rfl rfl (fun K hK => ?_)
      go_wp2_with fail
      refine (HU5.out _).mono ?_
      rintro e wu1 ⟨rfl, rfl⟩
      refine hK _ _ HQ.out ?_
      clear hK K
      repeat (first
        | (refine Sch.tn_q rfl rfl rfl (fun K hK => ?_); go_big_quiet_op; (first | refine hK _ ?_ | refine ⟨_, fun _ _ => rfl, hK _ ?_⟩); clear hK K)
        | (refine Sch.tn_chk _ _ _ rfl rfl rfl rfl rfl ?_; simp only [Act.put, List.setIfInBounds_toArray, List.set_cons_zero, List.set_cons_succ])
        | (refine Sch.tn_load _ _ _ _ _ rfl rfl rfl rfl (by first | exact Ib.l | exact Ib.lc) rfl ?_; simp only [Act.put, List.setIfInBounds_toArray, List.set_cons_zero, List.set_cons_succ])
        | (refine Sch.tn_s _ rfl rfl rfl ?_; simp only [Act.put, List.setIfInBounds_toArray, List.set_cons_zero, List.set_cons_succ])
        | (refine Sch.tn_se _ rfl rfl rfl ?_; simp only [Act.put, List.setIfInBounds_toArray, List.set_cons_zero, List.set_cons_succ]))
      refine Sch.tn_e rfl rfl (fun K hK => ?_)
      go_wp2_with fail
      refine (HCr.out _ HR.out).mono ?_
      rintro e wc ⟨rfl, rfl⟩
      refine hK _ _ HQ.out ?_
      clear hK K
      repeat (first
        | (refine Sch.tn_q rfl rfl rfl (fun K hK => ?_); go_big_quiet_op; (first | refine hK _ ?_ | refine ⟨_, fun _ _ => rfl, hK _ ?_⟩); clear hK K)
        | (refine Sch.tn_chk _ _ _ rfl rfl rfl rfl rfl ?_; simp only [Act.put, List.setIfInBounds_toArray, List.set_cons_zero, List.set_cons_succ])
        | (refine Sch.tn_load _ _ _ _ _ rfl rfl rfl rfl (by first | exact Ib.l | exact Ib.lc) rfl ?_; simp only [Act.put, List.setIfInBounds_toArray, List.set_cons_zero, List.set_cons_succ])
        | (refine Sch.tn_s _ rfl rfl rfl ?_; simp only [Act.put, List.setIfInBounds_toArray, List.set_cons_zero, List.set_cons_succ])
        | (refine Sch.tn_se _ rfl rfl rfl ?_; simp only [Act.put, List.setIfInBounds_toArray, List.set_cons_zero, List.set_cons_succ]))
      refine Sch.tn_e rfl rfl (fun K hK => ?_)
      go_wp2_with fail
      refine (HU13.out _).mono ?_
      rintro e wu2 ⟨rfl, rfl⟩
      refine hK _ _ HQ.out ?_
      clear hK K
      repeat (first
        | (refine Sch.tn_q rfl rfl rfl (fun K hK => ?_); go_big_quiet_op; (first | refine hK _ ?_ | refine ⟨_, fun _ _ => rfl, hK _ ?_⟩); clear hK K)
        | (refine Sch.tn_chk _ _ _ rfl rfl rfl rfl rfl ?_; simp only [Act.put, List.setIfInBounds_toArray, List.set_cons_zero, List.set_cons_succ])
        | (refine Sch.tn_load _ _ _ _ _ rfl rfl rfl rfl (by first | exact Ib.l | exact Ib.lc) rfl ?_; simp only [Act.put, List.setIfInBounds_toArray, List.set_cons_zero, List.set_cons_succ])
        | (refine Sch.tn_s _ rfl rfl rfl ?_; simp only [Act.put, List.setIfInBounds_toArray, List.set_cons_zero, List.set_cons_succ])
        | (refine Sch.tn_se _ rfl rfl rfl ?_; simp only [Act.put, List.setIfInBounds_toArray, List.set_cons_zero, List.set_cons_succ]))
      refine Sch.tn_e rfl rfl (fun K hK => ?_)
      go_wp2_with fail
      refine (HU14.out _).mono ?_
      rintro e wu3 ⟨rfl, rfl⟩
      refine hK _ _ HQ.out ?_
      clear hK K
      repeat (first
        | (refine Sch.tn_q rfl rfl rfl (fun K hK => ?_); go_big_quiet_op; (first | refine hK _ ?_ | refine ⟨_, fun _ _ => rfl, hK _ ?_⟩); clear hK K)
        | (refine Sch.tn_chk _ _ _ rfl rfl rfl rfl rfl ?_; simp only [Act.put, List.setIfInBounds_toArray, List.set_cons_zero, List.set_cons_succ])
        | (refine Sch.tn_load _ _ _ _ _ rfl rfl rfl rfl (by first | exact Ib.l | exact Ib.lc) rfl ?_; simp only [Act.put, List.setIfInBounds_toArray, List.set_cons_zero, List.set_cons_succ])
        | (refine Sch.tn_s _ rfl rfl rfl ?_; simp only [Act.put, List.setIfInBounds_toArray, List.set_cons_zero, List.set_cons_succ])
        | (refine Sch.tn_se _ rfl rfl rfl ?_; simp only [Act.put, List.setIfInBounds_toArray, List.set_cons_zero, List.set_cons_succ]))
      refine Sch.tn_e rfl rfl (fun K hK => ?_)
      go_wp2_with fail
      refine (HTk.out _ HX.out).mono ?_
      rintro e wn ⟨rfl, hb⟩
      replace HQ := Lib.hid (HQ.out.keep hb)
      replace HX := Lib.hid (HX.out.keep hb)
      replace HR := Lib.hid (HR.out.keep hb (Nat.le_refl _))
      replace HBd := Lib.hid (HBd.out.trans (hb.mono HBd.out.size))
      clear hb
      refine hK _ _ HQ.out ?_
      clear hK K
      repeat (first
        | (refine Sch.tn_q rfl rfl rfl (fun K hK => ?_); go_big_quiet_op; (first | refine hK _ ?_ | refine ⟨_, fun _ _ => rfl, hK _ ?_⟩); clear hK K)
        | (refine Sch.tn_chk _ _ _ rfl rfl rfl rfl rfl ?_; simp only [Act.put, List.setIfInBounds_toArray, List.set_cons_zero, List.set_cons_succ])
        | (refine Sch.tn_load _ _ _ _ _ rfl rfl rfl rfl (by first | exact Ib.l | exact Ib.lc) rfl ?_; simp only [Act.put, List.setIfInBounds_toArray, List.set_cons_zero, List.set_cons_succ])
        | (refine Sch.tn_s _ rfl rfl rfl ?_; simp only [Act.put, List.setIfInBounds_toArray, List.set_cons_zero, List.set_cons_succ])
        | (refine Sch.tn_se _ rfl rfl rfl ?_; simp only [Act.put, List.setIfInBounds_toArray, List.set_cons_zero, List.set_cons_succ]))
      refine Sch.tn_e rfl rfl (fun K hK => ?_)
      go_wp2_with fail
      refine (HU11.out _).mono ?_
      rintro e wu4 ⟨rfl, rfl⟩
      refine hK _ _ HQ.out ?_
      clear hK K
      repeat (first
        | (refine Sch.tn_q rfl rfl rfl (fun K hK => ?_); go_big_quiet_op; (first | refine hK _ ?_ | refine ⟨_, fun _ _ => rfl, hK _ ?_⟩); clear hK K)
        | (refine Sch.tn_chk _ _ _ rfl rfl rfl rfl rfl ?_; simp only [Act.put, List.setIfInBounds_toArray, List.set_cons_zero, List.set_cons_succ])
        | (refine Sch.tn_load _ _ _ _ _ rfl rfl rfl rfl (by first | exact Ib.l | exact Ib.lc) rfl ?_; simp only [Act.put, List.setIfInBounds_toArray, List.set_cons_zero, List.set_cons_succ])
        | (refine Sch.tn_s _ rfl rfl rfl ?_; simp only [Act.put, List.setIfInBounds_toArray, List.set_cons_zero, List.set_cons_succ])
        | (refine Sch.tn_se _ rfl rfl rfl ?_; simp only [Act.put, List.setIfInBounds_toArray, List.set_cons_zero, List.set_cons_succ]))
      have hb := bel_box wu4 (.cells ⟨[.int .i64 x2, .int .i64 e2, .int .i64 x5, .int .i64 x13, .int .i64 x14, .int .i64 x11]⟩ 29)
      have HL : Hid (G.RowI .i64 (wu4.alloc (.cells ⟨[.int .i64 x2, .int .i64 e2, .int .i64 x5, .int .i64 x13, .int .i64 x14, .int .i64 x11]⟩ 29)) (some ⟨wu4.heap.size, 0, none⟩) [x2, e2, x5, x13, x14, x11]) := G.RowI.lit .i64 wu4 _ rfl [x2, e2, x5, x13, x14, x11] ⟨[.int .i64 x2, .int .i64 e2, .int .i64 x5, .int .i64 x13, .int .i64 x14, .int .i64 x11]⟩ _ rfl
      replace HQ := Lib.hid (HQ.out.keep hb)
      replace HBd := Lib.hid (HBd.out.trans (hb.mono HBd.out.size))
      clear hb
      refine Sch.tn_e rfl rfl (fun K hK => ?_)
      go_wp2_with fail
      refine hK _ _ HQ.out ?_
      clear hK K
      generalize wu4.alloc (.cells ⟨[.int .i64 x2, .int .i64 e2, .int .i64 x5, .int .i64 x13, .int .i64 x14, .int .i64 x11]⟩ 29) = wz at *
      generalize wu4.heap.size = gz at *
      refine Sch.tn_e rfl rfl (fun K hK => ?_)
      go_wp2_with fail
      refine (firstE_any [x2, e2, x5, x13, x14, x11] gz 0 6 6 rfl wz HL.out (by simp)).mono ?_
      rintro e wf ⟨rfl, rfl⟩
      refine hK _ _ HQ.out ?_
      clear hK K
      repeat (first
        | (refine Sch.tn_q rfl rfl rfl (fun K hK => ?_); go_big_quiet_op; (first | refine hK _ ?_ | refine ⟨_, fun _ _ => rfl, hK _ ?_⟩); clear hK K)
        | (refine Sch.tn_chk _ _ _ rfl rfl rfl rfl rfl ?_; simp only [Act.put, List.setIfInBounds_toArray, List.set_cons_zero, List.set_cons_succ])
        | (refine Sch.tn_load _ _ _ _ _ rfl rfl rfl rfl (by first | exact Ib.l | exact Ib.lc) rfl ?_; simp only [Act.put, List.setIfInBounds_toArray, List.set_cons_zero, List.set_cons_succ])
        | (refine Sch.tn_s _ rfl rfl rfl ?_; simp only [Act.put, List.setIfInBounds_toArray, List.set_cons_zero, List.set_cons_succ])
        | (refine Sch.tn_se _ rfl rfl rfl ?_; simp only [Act.put, List.setIfInBounds_toArray, List.set_cons_zero, List.set_cons_succ]))
      refine Sch.tn_n ?_
      go_wp2_with fail
      go_meet
      exact ⟨by rw [HE.out], HBd.out⟩
    · skip
      go_wp2_with fail
      refine Sch.wp_region_tn (Ib g5 d) (.val 0 (.val 7 (.val 8 (.val 9 (.val 10 (.val 12 (.val 16 (.val 17 (.val 18 (.val 19 (.val 20 (.val 21 (.val 22 (.val 31 (.val 32 (.val 33 (.val 34 (.one 1 (.val 2 (.val 3 (.one 4 (.val 5 (.one 6 (.one 11 (.one 13 (.val 14 (.one 15 (.val 23 (.val 24 (.val 25 (.val 26 (.val 27 (.val 28 (.val 29 (.one 30 (.one 35 (.val 36 (.one 37 (.one 38 (.one 39 (.val 40 .done))))))))))))))))))))))))))))))))))))))))) (by kernel_rfl) (by kernel_rfl) HQ.out ?_
      repeat (first
        | (refine Sch.tn_q rfl rfl rfl (fun K hK => ?_); go_big_quiet_op; (first | refine hK _ ?_ | refine ⟨_, fun _ _ => rfl, hK _ ?_⟩); clear hK K)
        | (refine Sch.tn_chk _ _ _ rfl rfl rfl rfl rfl ?_; simp only [Act.put, List.setIfInBounds_toArray, List.set_cons_zero, List.set_cons_succ])
        | (refine Sch.tn_load _ _ _ _ _ rfl rfl rfl rfl (by first | exact Ib.l | exact Ib.lc) rfl ?_; simp only [Act.put, List.setIfInBounds_toArray, List.set_cons_zero, List.set_cons_succ]))
      generalize w4.drew = wd at *
      refine Sch.tn_e rfl rfl (fun K hK => ?_)
      go_wp2_with fail
      refine (HWl.out _ HX.out).mono ?_
      rintro e wn ⟨rfl, hb⟩
      replace HQ := Lib.hid (HQ.out.keep hb)
      replace HX := Lib.hid (HX.out.keep hb)
      replace HR := Lib.hid (HR.out.keep hb (Nat.le_refl _))
      replace HBd := Lib.hid (HBd.out.trans (hb.mono HBd.out.size))
      clear hb
      refine hK _ _ HQ.out ?_
      clear hK K
      repeat (first
        | (refine Sch.tn_q rfl rfl rfl (fun K hK => ?_); go_big_quiet_op; (first | refine hK _ ?_ | refine ⟨_, fun _ _ => rfl, hK _ ?_⟩); clear hK K)
        | (refine Sch.tn_chk _ _ _ rfl rfl rfl rfl rfl ?_; simp only [Act.put, List.setIfInBounds_toArray, List.set_cons_zero, List.set_cons_succ])
        | (refine Sch.tn_load _ _ _ _ _ rfl rfl rfl rfl (by first | exact Ib.l | exact Ib.lc) rfl ?_; simp only [Act.put, List.setIfInBounds_toArray, List.set_cons_zero, List.set_cons_succ])
        | (refine Sch.tn_s _ rfl rfl rfl ?_; simp only [Act.put, List.setIfInBounds_toArray, List.set_cons_zero, List.set_cons_succ])
        | (refine Sch.tn_se _ rfl rfl rfl ?_; simp only [Act.put, List.setIfInBounds_toArray, List.set_cons_zero, List.set_cons_succ]))
      refine Sch.tn_e rfl rfl (fun K hK => ?_)
      go_wp2_with fail
      refine (HVd.out _).mono ?_
      rintro e wn ⟨rfl, hb⟩
      replace HQ := Lib.hid (HQ.out.keep hb)
      replace HX := Lib.hid (HX.out.keep hb)
      replace HR := Lib.hid (HR.out.keep hb (Nat.le_refl _))
      replace HBd := Lib.hid (HBd.out.trans (hb.mono HBd.out.size))
      clear hb
      refine hK _ _ HQ.out ?_
      clear hK K
      repeat (first
        | (refine Sch.tn_q rfl rfl rfl (fun K hK => ?_); go_big_quiet_op; (first | refine hK _ ?_ | refine ⟨_, fun _ _ => rfl, hK _ ?_⟩); clear hK K)
        | (refine Sch.tn_chk _ _ _ rfl rfl rfl rfl rfl ?_; simp only [Act.put, List.setIfInBounds_toArray, List.set_cons_zero, List.set_cons_succ])
        | (refine Sch.tn_load _ _ _ _ _ rfl rfl rfl rfl (by first | exact Ib.l | exact Ib.lc) rfl ?_; simp only [Act.put, List.setIfInBounds_toArray, List.set_cons_zero, List.set_cons_succ])
        | (refine Sch.tn_s _ rfl rfl rfl ?_; simp only [Act.put, List.setIfInBounds_toArray, List.set_cons_zero, List.set_cons_succ])
        | (refine Sch.tn_se _ rfl rfl rfl ?_; simp only [Act.put, List.setIfInBounds_toArray, List.set_cons_zero, List.set_cons_succ]))
      refine Sch.tn_e rfl rfl (fun K hK => ?_)
      go_wp2_with fail
      refine (HU2.out _).mono ?_
      rintro e wu0 ⟨rfl, rfl⟩
      refine hK _ _ HQ.out ?_
      clear hK K
      repeat (first
        | (refine Sch.tn_q rfl rfl rfl (fun K hK => ?_); go_big_quiet_op; (first | refine hK _ ?_ | refine ⟨_, fun _ _ => rfl, hK _ ?_⟩); clear hK K)
        | (refine Sch.tn_chk _ _ _ rfl rfl rfl rfl rfl ?_; simp only [Act.put, List.setIfInBounds_toArray, List.set_cons_zero, List.set_cons_succ])
        | (refine Sch.tn_load _ _ _ _ _ rfl rfl rfl rfl (by first | exact Ib.l | exact Ib.lc) rfl ?_; simp only [Act.put, List.setIfInBounds_toArray, List.set_cons_zero, List.set_cons_succ])
        | (refine Sch.tn_s _ rfl rfl rfl ?_; simp only [Act.put, List.setIfInBounds_toArray, List.set_cons_zero, List.set_cons_succ])
        | (refine Sch.tn_se _ rfl rfl rfl ?_; simp only [Act.put, List.setIfInBounds_toArray, List.set_cons_zero, List.set_cons_succ]))
      refine Sch.tn_e rfl rfl (fun K hK => ?_)
      go_wp2_with fail
      refine (HU5.out _).mono ?_
      rintro e wu1 ⟨rfl, rfl⟩
      refine hK _ _ HQ.out ?_
      clear hK K
      repeat (first
        | (refine Sch.tn_q rfl rfl rfl (fun K hK => ?_); go_big_quiet_op; (first | refine hK _ ?_ | refine ⟨_, fun _ _ => rfl, hK _ ?_⟩); clear hK K)
        | (refine Sch.tn_chk _ _ _ rfl rfl rfl rfl rfl ?_; simp only [Act.put, List.setIfInBounds_toArray, List.set_cons_zero, List.set_cons_succ])
        | (refine Sch.tn_load _ _ _ _ _ rfl rfl rfl rfl (by first | exact Ib.l | exact Ib.lc) rfl ?_; simp only [Act.put, List.setIfInBounds_toArray, List.set_cons_zero, List.set_cons_succ])
        | (refine Sch.tn_s _ rfl rfl rfl ?_; simp only [Act.put, List.setIfInBounds_toArray, List.set_cons_zero, List.set_cons_succ])
        | (refine Sch.tn_se _ rfl rfl rfl ?_; simp only [Act.put, List.setIfInBounds_toArray, List.set_cons_zero, List.set_cons_succ]))
      refine Sch.tn_e rfl rfl (fun K hK => ?_)
      go_wp2_with fail
      refine (HCr.out _ HR.out).mono ?_
      rintro e wc ⟨rfl, rfl⟩
      refine hK _ _ HQ.out ?_
      clear hK K
      repeat (first
        | (refine Sch.tn_q rfl rfl rfl (fun K hK => ?_); go_big_quiet_op; (first | refine hK _ ?_ | refine ⟨_, fun _ _ => rfl, hK _ ?_⟩); clear hK K)
        | (refine Sch.tn_chk _ _ _ rfl rfl rfl rfl rfl ?_; simp only [Act.put, List.setIfInBounds_toArray, List.set_cons_zero, List.set_cons_succ])
        | (refine Sch.tn_load _ _ _ _ _ rfl rfl rfl rfl (by first | exact Ib.l | exact Ib.lc) rfl ?_; simp only [Act.put, List.setIfInBounds_toArray, List.set_cons_zero, List.set_cons_succ])
        | (refine Sch.tn_s _ rfl rfl rfl ?_; simp only [Act.put, List.setIfInBounds_toArray, List.set_cons_zero, List.set_cons_succ])
        | (refine Sch.tn_se _ rfl rfl rfl ?_; simp only [Act.put, List.setIfInBounds_toArray, List.set_cons_zero, List.set_cons_succ]))
      refine Sch.tn_e rfl rfl (fun K hK => ?_)
      go_wp2_with fail
      refine (HU13.out _).mono ?_
      rintro e wu2 ⟨rfl, rfl⟩
      refine hK _ _ HQ.out ?_
      clear hK K
      repeat (first
        | (refine Sch.tn_q rfl rfl rfl (fun K hK => ?_); go_big_quiet_op; (first | refine hK _ ?_ | refine ⟨_, fun _ _ => rfl, hK _ ?_⟩); clear hK K)
        | (refine Sch.tn_chk _ _ _ rfl rfl rfl rfl rfl ?_; simp only [Act.put, List.setIfInBounds_toArray, List.set_cons_zero, List.set_cons_succ])
        | (refine Sch.tn_load _ _ _ _ _ rfl rfl rfl rfl (by first | exact Ib.l | exact Ib.lc) rfl ?_; simp only [Act.put, List.setIfInBounds_toArray, List.set_cons_zero, List.set_cons_succ])
        | (refine Sch.tn_s _ rfl rfl rfl ?_; simp only [Act.put, List.setIfInBounds_toArray, List.set_cons_zero, List.set_cons_succ])
        | (refine Sch.tn_se _ rfl rfl rfl ?_; simp only [Act.put, List.setIfInBounds_toArray, List.set_cons_zero, List.set_cons_succ]))
      refine Sch.tn_e rfl rfl (fun K hK => ?_)
      go_wp2_with fail
      refine (HU14.out _).mono ?_
      rintro e wu3 ⟨rfl, rfl⟩
      refine hK _ _ HQ.out ?_
      clear hK K
      repeat (first
        | (refine Sch.tn_q rfl rfl rfl (fun K hK => ?_); go_big_quiet_op; (first | refine hK _ ?_ | refine ⟨_, fun _ _ => rfl, hK _ ?_⟩); clear hK K)
        | (refine Sch.tn_chk _ _ _ rfl rfl rfl rfl rfl ?_; simp only [Act.put, List.setIfInBounds_toArray, List.set_cons_zero, List.set_cons_succ])
        | (refine Sch.tn_load _ _ _ _ _ rfl rfl rfl rfl (by first | exact Ib.l | exact Ib.lc) rfl ?_; simp only [Act.put, List.setIfInBounds_toArray, List.set_cons_zero, List.set_cons_succ])
        | (refine Sch.tn_s _ rfl rfl rfl ?_; simp only [Act.put, List.setIfInBounds_toArray, List.set_cons_zero, List.set_cons_succ])
        | (refine Sch.tn_se _ rfl rfl rfl ?_; simp only [Act.put, List.setIfInBounds_toArray, List.set_cons_zero, List.set_cons_succ]))
      refine Sch.tn_e rfl rfl (fun K hK => ?_)
      go_wp2_with fail
      refine (HTk.out _ HX.out).mono ?_
      rintro e wn ⟨rfl, hb⟩
      replace HQ := Lib.hid (HQ.out.keep hb)
      replace HX := Lib.hid (HX.out.keep hb)
      replace HR := Lib.hid (HR.out.keep hb (Nat.le_refl _))
      replace HBd := Lib.hid (HBd.out.trans (hb.mono HBd.out.size))
      clear hb
      refine hK _ _ HQ.out ?_
      clear hK K
      repeat (first
        | (refine Sch.tn_q rfl rfl rfl (fun K hK => ?_); go_big_quiet_op; (first | refine hK _ ?_ | refine ⟨_, fun _ _ => rfl, hK _ ?_⟩); clear hK K)
        | (refine Sch.tn_chk _ _ _ rfl rfl rfl rfl rfl ?_; simp only [Act.put, List.setIfInBounds_toArray, List.set_cons_zero, List.set_cons_succ])
        | (refine Sch.tn_load _ _ _ _ _ rfl rfl rfl rfl (by first | exact Ib.l | exact Ib.lc) rfl ?_; simp only [Act.put, List.setIfInBounds_toArray, List.set_cons_zero, List.set_cons_succ])
        | (refine Sch.tn_s _ rfl rfl rfl ?_; simp only [Act.put, List.setIfInBounds_toArray, List.set_cons_zero, List.set_cons_succ])
        | (refine Sch.tn_se _ rfl rfl rfl ?_; simp only [Act.put, List.setIfInBounds_toArray, List.set_cons_zero, List.set_cons_succ]))
      refine Sch.tn_e rfl rfl (fun K hK => ?_)
      go_wp2_with fail
      refine (HU11.out _).mono ?_
      rintro e wu4 ⟨rfl, rfl⟩
      refine hK _ _ HQ.out ?_
      clear hK K
      repeat (first
        | (refine Sch.tn_q rfl rfl rfl (fun K hK => ?_); go_big_quiet_op; (first | refine hK _ ?_ | refine ⟨_, fun _ _ => rfl, hK _ ?_⟩); clear hK K)
        | (refine Sch.tn_chk _ _ _ rfl rfl rfl rfl rfl ?_; simp only [Act.put, List.setIfInBounds_toArray, List.set_cons_zero, List.set_cons_succ])
        | (refine Sch.tn_load _ _ _ _ _ rfl rfl rfl rfl (by first | exact Ib.l | exact Ib.lc) rfl ?_; simp only [Act.put, List.setIfInBounds_toArray, List.set_cons_zero, List.set_cons_succ])
        | (refine Sch.tn_s _ rfl rfl rfl ?_; simp only [Act.put, List.setIfInBounds_toArray, List.set_cons_zero, List.set_cons_succ])
        | (refine Sch.tn_se _ rfl rfl rfl ?_; simp only [Act.put, List.setIfInBounds_toArray, List.set_cons_zero, List.set_cons_succ]))
      have hb := bel_box wu4 (.cells ⟨[.int .i64 x2, .int .i64 e2, .int .i64 x5, .int .i64 x13, .int .i64 x14, .int .i64 x11]⟩ 29)
      have HL : Hid (G.RowI .i64 (wu4.alloc (.cells ⟨[.int .i64 x2, .int .i64 e2, .int .i64 x5, .int .i64 x13, .int .i64 x14, .int .i64 x11]⟩ 29)) (some ⟨wu4.heap.size, 0, none⟩) [x2, e2, x5, x13, x14, x11]) := G.RowI.lit .i64 wu4 _ rfl [x2, e2, x5, x13, x14, x11] ⟨[.int .i64 x2, .int .i64 e2, .int .i64 x5, .int .i64 x13, .int .i64 x14, .int .i64 x11]⟩ _ rfl
      replace HQ := Lib.hid (HQ.out.keep hb)
      replace HBd := Lib.hid (HBd.out.trans (hb.mono HBd.out.size))
      clear hb
      refine Sch.tn_e rfl rfl (fun K hK => ?_)
      go_wp2_with fail
      refine hK _ _ HQ.out ?_
      clear hK K
      generalize wu4.alloc (.cells ⟨[.int .i64 x2, .int .i64 e2, .int .i64 x5, .int .i64 x13, .int .i64 x14, .int .i64 x11]⟩ 29) = wz at *
      generalize wu4.heap.size = gz at *
      refine Sch.tn_e rfl rfl (fun K hK => ?_)
      go_wp2_with fail
      refine (firstE_any [x2, e2, x5, x13, x14, x11] gz 0 6 6 rfl wz HL.out (by simp)).mono ?_
      rintro e wf ⟨rfl, rfl⟩
      refine hK _ _ HQ.out ?_
      clear hK K
      repeat (first
        | (refine Sch.tn_q rfl rfl rfl (fun K hK => ?_); go_big_quiet_op; (first | refine hK _ ?_ | refine ⟨_, fun _ _ => rfl, hK _ ?_⟩); clear hK K)
        | (refine Sch.tn_chk _ _ _ rfl rfl rfl rfl rfl ?_; simp only [Act.put, List.setIfInBounds_toArray, List.set_cons_zero, List.set_cons_succ])
        | (refine Sch.tn_load _ _ _ _ _ rfl rfl rfl rfl (by first | exact Ib.l | exact Ib.lc) rfl ?_; simp only [Act.put, List.setIfInBounds_toArray, List.set_cons_zero, List.set_cons_succ])
        | (refine Sch.tn_s _ rfl rfl rfl ?_; simp only [Act.put, List.setIfInBounds_toArray, List.set_cons_zero, List.set_cons_succ])
        | (refine Sch.tn_se _ rfl rfl rfl ?_; simp only [Act.put, List.setIfInBounds_toArray, List.set_cons_zero, List.set_cons_succ]))
      refine Sch.tn_n ?_
      go_wp2_with fail
      go_meet
      exact ⟨by rw [HE.out], HBd.out⟩
  case rest =>
    obtain ⟨rfl, hBx⟩ := hcut
    have HB5 := Lib.hid (HB4.out.trans (hBx.out.mono (by have h1 := HB4.out.size; rw [HGw.out] at h1; exact h1)))
    have HK5 := Lib.hid (HK4.out.keep hBx.out)
    have HP5 := Lib.hid (HP4.out.keep hBx.out)
    have HR5 := Lib.hid (HR4.out.keep hBx.out (Nat.le_refl _))
    obtain ⟨hE, hN, hY⟩ := HPl.out
    have HEe := Lib.hid hE
    clear hBx HB4 HK4 HX4 HR4 HP4 HPl HE hE hs1' hs2' hs3' HWl HVd HCr HTk
    by_cases hz : E = 0
    · obtain ⟨h1, h2, h3, h4, h5, h6⟩ := hY hz
      have HRZ := Lib.hid h1
      have HCc := Lib.hid (fun w h => HCh.out (p1, p2) LT w h h2 h3 h4 h5 h6)
      have HR0 : Hid (RZ.2 = 0) := HEe.out.symm.trans hz
      have hz2 : (E != 0) = false := by rw [hz]; rfl
      clear h1 h2 h3 h4 h5 h6 hY hN hz HCh
      have k0 := HK5.out.c0
      have k1 := HK5.out.c1
      have q0 := HP5.out.c0
      have q1 := HP5.out.c1
      go_wp2_with fail
      refine (HCc.out _ HR5.out).mono ?_
      rintro e w8 ⟨v8, rfl, ho, hb⟩
      have HBf := Lib.hid (HB5.out.trans (hb.mono (by have h1 := HB5.out.size; rw [HGw.out] at h1; exact h1)))
      have HOf : Hid (ON w8 g5 EN v8 RZ.1) := by show ON _ _ _ _ _; rw [HRZ.out]; exact ho.mono fun x hx => by have h1 := HB5.out.size; rw [HGw.out] at h1; exact Nat.le_trans h1 (ho.lt x hx).1
      clear ho hb k0 k1 q0 q1
      go_wp2_with fail
      go_ret2
      rw [HR0.out, HGw.out]
      exact ⟨_, rfl, HOf.out, HBf.out⟩
    · have hz2 : (E != 0) = true := by rw [bne_iff_ne]; exact hz
      have HN := Lib.hid (hN hz)
      clear hY hN hz
      go_wp2_with fail
      go_ret2
      rw [HN.out, ← HEe.out, HGw.out]
      exact ⟨_, rfl, ON.nil _ _ _, HB5.out⟩
end Go.Proofs.YtkcbekebleodaaaGreat.Ed
end

/-
  Layer 15: package edit's Replace and Apply.
-/
section
namespace Go.Proofs.YtkcbekebleodaaaGreat.Ed
set_option linter.unusedVariables false
open Go.RowKit V Go.Shelf Go.Sort D Nd Qs Wk Ix Jn Fo
attribute [local irreducible] Sch.heldN Sch.stepV Sch.stepE

theorem delta_len {l : List Nt} {d : Dt} {i n : Nat} {rs : List Int} (h : Ok l d i n rs) : (deltaS l d i n rs).length ≤ n + rs.length := by
  rw [← h.ref]
  refine Nat.le_trans (step_fold_len _) ?_
  unfold partsS chainS
  rw [List.length_append, chain_len, kills_len h.i]
  exact Nat.le_refl _
theorem rep_plain {l : List Nt} {d : Dt} {i n : Int} {rs : List Int} :
    Un.firstE [if validR d = true then 0 else 2, (delP l i n).2, (insP l d i rs).2] = (repP l d i n rs).2 ∧ ((repP l d i n rs).2 ≠ 0 → (repP l d i n rs).1 = []) ∧
    ((repP l d i n rs).2 = 0 → joinP (delP l i n).1 (insP l d i rs).1 = repP l d i n rs ∧ (delP l i n).1.length ≤ 20000 ∧ (insP l d i rs).1.length ≤ 20000) := by
  unfold delP insP
  rcases hd : validR d with _ | _
  · rw [rep_arg (l := l) (d := d) (i := i) (n := n) (by rw [hd, Bool.and_false]), if_neg (by decide), first1 (by decide)]
    exact ⟨rfl, fun _ => rfl, fun h => by cases h⟩
  · rw [if_pos rfl, first0]
    rcases hw : wellS l with _ | _
    · rw [rep_arg (l := l) (d := (1, 1)) (by rw [hw]; rfl), rep_arg (l := l) (d := d) (i := i) (n := n) (by rw [hw]; rfl), first1 (by decide)]
      exact ⟨rfl, fun _ => rfl, fun h => by cases h⟩
    · have hv := well_valid hw
      have hwd1 : (wellS l && validR ((1, 1) : Dt)) = true := by rw [hw]; decide
      have hwd : (wellS l && validR d) = true := by rw [hw, hd]; rfl
      by_cases hoff : offR l i n
      · rw [rep_off hw (by decide) hoff, rep_off hw hd hoff, first1 (by decide)]
        exact ⟨rfl, fun _ => rfl, fun h => by cases h⟩
      · have hin := hoff
        unfold offR at hin
        obtain ⟨m, rfl⟩ : ∃ m : Nat, i = (m : Int) := ⟨i.toNat, by omega⟩
        obtain ⟨k, rfl⟩ : ∃ k : Nat, n = (k : Int) := ⟨n.toNat, by omega⟩
        have hmk : m + k ≤ (visS l).length := by omega
        have hoff0 : ¬ offR l (m : Int) 0 := by unfold offR; omega
        by_cases hN : 10000 < (k : Int)
        · rw [rep_long hwd1 hoff (.inr hN), rep_long hwd hoff (.inr hN), first1 (by decide)]
          exact ⟨rfl, fun _ => rfl, fun h => by cases h⟩
        · have okd : Ok l (1, 1) m k [] := ⟨hw, by decide, hmk, (fun r hr => by cases hr), by decide, by have := time_top hv; simp; omega, fun j hj => by simp at hj⟩
          have hrd := ok_rep okd (by omega) (by simp)
          rw [hrd]
          simp only [first0]
          by_cases hL : 10000 < rs.length
          · rw [rep_long hwd hoff0 (.inl hL), rep_long hwd hoff (.inl hL), first1 (by decide)]
            exact ⟨rfl, fun _ => rfl, fun h => by cases h⟩
          · have hnn : ¬ (10000 < rs.length ∨ (10000 : Int) < (k : Int)) := by omega
            have hnn0 : ¬ (10000 < rs.length ∨ (10000 : Int) < 0) := by omega
            rcases hal : rs.all R.vld with _ | _
            · rw [rep_rune hwd hoff0 hnn0 hal, rep_rune hwd hoff hnn hal, first1 (by decide)]
              exact ⟨rfl, fun _ => rfl, fun h => by cases h⟩
            · by_cases hex : 4294967295 - d.2 + 1 < (rs.length : Int) ∨ 4611686018427387904 - timeS l < (rs.length : Int)
              · rw [rep_ex hwd hoff0 hnn0 hal hex, rep_ex hwd hoff hnn hal hex, first1 (by decide)]
                exact ⟨rfl, fun _ => rfl, fun h => by cases h⟩
              · rcases hb : busyS l d rs.length with _ | _
                · obtain ⟨ok0, e0⟩ := rep_ok hwd (by exact hoff0) hnn0 hal hex hb
                  obtain ⟨ok, e⟩ := rep_ok hwd (by exact hoff) hnn hal hex hb
                  simp only [Int.toNat_natCast, Int.toNat_zero] at ok e ok0 e0
                  rw [e, e0]
                  simp only [first0]
                  refine ⟨rfl, fun h => absurd rfl h, fun _ => ?_⟩
                  obtain ⟨h1, h2⟩ := ok.both
                  have hdd : deltaS l d m k [] = deltaS l (1, 1) m k [] := by
                    unfold deltaS partsS chainS
                    rw [chainN, chainN]
                  rw [hdd] at h1 h2
                  refine ⟨?_, by have := delta_len okd; simp at this; omega, by have := delta_len ok0; omega⟩
                  unfold joinP
                  rw [okd.delta.1, ok0.delta.1, if_pos (by rfl), if_pos h1, h2]
                · have hb2 : ∃ j : Nat, j < rs.length ∧ (atS l (d.1, d.2 + (j : Int))).isSome = true := by
                    unfold busyS at hb
                    rw [List.any_eq_true] at hb
                    obtain ⟨j, hj, e⟩ := hb
                    exact ⟨j, List.mem_range.1 hj, e⟩
                  obtain ⟨j, hj, e⟩ := hb2
                  rw [rep_busy hwd hoff0 hnn0 hal hex hj e, rep_busy hwd hoff hnn hal hex hj e, first1 (by decide)]
                  exact ⟨rfl, fun _ => rfl, fun h => by cases h⟩
set_option maxRecDepth 100000 in
set_option maxHeartbeats 8000000 in
theorem replace_any (l : List Nt) (d : Dt) (i n : Int) (rs : List Int) (a b : Option Addr) (c e : Nat) (w : World) (hf : ∀ x ∈ l, fitN x) (hx : RowN w a l) (hr : G.RowI .i32 w b rs) (hlx : l.length ≤ 100000) (hrl : rs.length ≤ 1000000)
    (hd1 : -9223372036854775808 ≤ d.2) (hd2 : d.2 ≤ 9223372036854775807) (hi1 : -9223372036854775808 ≤ i) (hi2 : i ≤ 9223372036854775807) (hn1 : -9223372036854775808 ≤ n) (hn2 : n ≤ 9223372036854775807) :
    Calls Tryz.prog 22 #[.slice a l.length c, dv d, .int .i64 i, .int .i64 n, .slice b rs.length e] w fun e w' => ∃ v, e = .returned (.tuple #[v, .int .i64 (repP l d i n rs).2]) ∧ ON w' w.heap.size EN v (repP l d i n rs).1 ∧ Below w.heap.size w w' := by
  have HPl := Lib.hid (rep_plain (l := l) (d := d) (i := i) (n := n) (rs := rs))
  have HB := Lib.hid (bel_box w (.cells #[.int .i64 d.1, .int .i64 d.2] 25))
  have HK := Lib.hid (Un.bd_new w d)
  have HX := Lib.hid (hx.keep HB.out)
  have HR := Lib.hid (hr.keep HB.out (Nat.le_refl _))
  have HDe := Lib.hid (fun w h => delete_any l i n a c w hf h hlx hi1 hi2 hn1 hn2)
  have HIn := Lib.hid (fun w h h2 => insert_any l d i rs a b c e w hf h h2 hlx hrl hd1 hd2)
  have HVd := Lib.hid (fun w => valid_any d w)
  have HU2 := Lib.hid (unlessE (validR d) 2)
  clear hx hr hf hlx hrl hd1 hd2 hi1 hi2 hn1 hn2
  generalize repP l d i n rs = RZ at *
  generalize delP l i n = DP at *
  generalize insP l d i rs = IP at *
  generalize (if validR d = true then (0 : Int) else 2) = x2 at *
  generalize validR d = V at *
  obtain ⟨DL, e1⟩ := DP
  obtain ⟨IL, e2⟩ := IP
  simp only at HPl HDe HIn
  go_enter Tryz.func22, Tryz.ntmps22
  go_wp2_with fail
  generalize w.alloc (.cells #[.int .i64 d.1, .int .i64 d.2] 25) = w1 at *
  refine (HDe.out _ HX.out).mono ?_
  rintro e w2 ⟨v2, rfl, ho, hb⟩
  obtain ⟨a2, c2, rfl, hr2, hn2, hc2, -⟩ := ON.row ho
  have HB2 := bel_tr HB hb
  have HK2 := Lib.hid (HK.out.keep hb)
  have HX2 := Lib.hid (HX.out.keep hb)
  have HR2 := Lib.hid (HR.out.keep hb (Nat.le_refl _))
  have HD2 := Lib.hid hr2
  have HDn : Hid (a2 = none → c2 = 0) := fun h => (hn2 h).1
  have HDc := Lib.hid hc2
  clear ho hb hr2 hn2 hc2 HB HK HX HR HDe
  have k0 := HK2.out.c0
  have k1 := HK2.out.c1
  go_wp2_with fail
  refine (HIn.out _ HX2.out HR2.out).mono ?_
  rintro e w3 ⟨v3, rfl, ho, hb⟩
  obtain ⟨a3, c3, rfl, hr3, hn3, hc3, -⟩ := ON.row ho
  have HB3 := bel_tr HB2 hb
  have HK3 := Lib.hid (HK2.out.keep hb)
  have HD3 := Lib.hid (HD2.out.keep hb)
  have HI3 := Lib.hid hr3
  have HI3n : Hid (a3 = none → c3 = 0) := fun h => (hn3 h).1
  have HI3c := Lib.hid hc3
  clear ho hb hr3 hn3 hc3 HB2 HK2 HX2 HR2 HD2 HIn k0 k1
  have k0 := HK3.out.c0
  have k1 := HK3.out.c1
  go_wp2_with fail
  refine (HVd.out _).mono ?_
  rintro e w4 ⟨rfl, hb⟩
  have HB4 := bel_tr HB3 hb
  have HD4 := Lib.hid (HD3.out.keep hb)
  have HI4 := Lib.hid (HI3.out.keep hb)
  clear hb HB3 HK3 HD3 HI3 HVd k0 k1
  go_wp2_with fail
  refine (HU2.out _).mono ?_
  rintro e w5 ⟨rfl, rfl⟩
  have hb := bel_box w5 (.cells ⟨[.int .i64 x2, .int .i64 e1, .int .i64 e2]⟩ 29)
  have HL : Hid (G.RowI .i64 (w5.alloc (.cells ⟨[.int .i64 x2, .int .i64 e1, .int .i64 e2]⟩ 29)) (some ⟨w5.heap.size, 0, none⟩) [x2, e1, e2]) := G.RowI.lit .i64 w5 _ rfl [x2, e1, e2] ⟨[.int .i64 x2, .int .i64 e1, .int .i64 e2]⟩ _ rfl
  have HB6 := bel_tr HB4 hb
  have HD6 := Lib.hid (HD4.out.keep hb)
  have HI6 := Lib.hid (HI4.out.keep hb)
  clear hb HB4 HD4 HI4
  go_wp2_with fail
  refine (firstE_any [x2, e1, e2] _ 0 3 3 rfl _ HL.out (by simp)).mono ?_
  rintro e w7 ⟨rfl, rfl⟩
  clear HL
  generalize w5.alloc (.cells ⟨[.int .i64 x2, .int .i64 e1, .int .i64 e2]⟩ 29) = w7 at *
  obtain ⟨hE, hN, hY⟩ := HPl.out
  clear HPl
  rw [hE]
  clear hE
  by_cases hz : RZ.2 = 0
  · obtain ⟨h1, h2, h3⟩ := hY hz
    have HJ := Lib.hid (join_any DL IL a2 a3 c2 c3 w7 HD6.out HDn.out HDc.out HI6.out HI3n.out HI3c.out (by omega) (by omega))
    rw [h1] at HJ
    have hz2 : (RZ.2 != 0) = false := by rw [hz]; rfl
    clear h1 h2 h3 hz hY hN
    go_wp2_with fail
    refine HJ.out.mono ?_
    rintro e w9 ⟨v9, rfl, ho, hb⟩
    have HO9 : Hid (ON w9 w.heap.size EN v9 RZ.1) := ho.mono fun x hx => Nat.le_trans HB6.out.size (ho.lt x hx).1
    have HB9 := bel_tr HB6 hb
    clear ho hb
    go_wp2_with fail
    go_ret2
    exact ⟨_, rfl, HO9.out, HB9.out⟩
  · have hz2 : (RZ.2 != 0) = true := by rw [bne_iff_ne]; exact hz
    have HN := Lib.hid (hN hz)
    clear hY hN hz
    go_wp2_with fail
    go_ret2
    rw [HN.out]
    exact ⟨_, rfl, ON.nil _ _ _, HB6.out⟩
theorem put_len1 (o : List Nt) (n : Nt) : (putN o n).1.length ≤ o.length + 1 := by
  by_cases h : (putN o n).2 = 0
  · obtain ⟨h1, -⟩ := put_yes h
    rw [h1]
    unfold setS
    rw [List.length_append, List.length_cons, List.length_take]
    have h2 := List.length_filter_le (fun x : Nt => !decide (x.1 = (upN o n).1)) (o.drop (posS o (upN o n).1))
    rw [List.length_drop] at h2
    have h3 := posS_le o (upN o n).1
    omega
  · rw [put_no h]
    simp
theorem joinL_len (a b : List Nt) : (joinL a b).length ≤ a.length + b.length := by
  unfold joinL foldN
  induction b generalizing a with
  | nil => exact Nat.le_refl _
  | cons n t ih =>
    have h1 := ih ((putN a n).1)
    have h2 := put_len1 a n
    rw [List.foldl_cons, List.length_cons]
    omega
theorem joinP_len (a b : List Nt) : (joinP a b).1.length ≤ a.length + b.length := by
  unfold joinP
  split
  · split
    · exact joinL_len a b
    · exact Nat.zero_le _
  · exact Nat.zero_le _
theorem app_plain (l m : List Nt) : Un.firstE [(joinP l m).2, (Un.runesQ (joinP l m).1).2] = (appP l m).2.2 ∧ ((appP l m).2.2 ≠ 0 → (appP l m).1 = [] ∧ (appP l m).2.1 = []) ∧ ((appP l m).2.2 = 0 → (joinP l m).1 = (appP l m).1 ∧ (Un.runesQ (joinP l m).1).1 = (appP l m).2.1) ∧ (joinP l m).1.length ≤ l.length + m.length := by
  have hl := joinP_len l m
  unfold joinP appP at *
  by_cases hv : (validS l && validS m) = true
  · rw [if_pos hv] at hl ⊢
    rw [if_pos hv]
    by_cases hg : agS l m = true
    · rw [if_pos hg] at hl ⊢
      rw [if_pos hg]
      rw [Bool.and_eq_true] at hv
      have hj := join_valid hv.1 hv.2 hg
      have hq : Un.runesQ (joinL l m) = (runesS (joinL l m), 0) := by
        unfold Un.runesQ
        rcases Un.visP_cases (joinL l m) with ⟨-, h⟩ | ⟨h, -⟩
        · rw [h]; rfl
        · rw [hj] at h; cases h
      exact ⟨by simp [hq, Un.firstE], fun h => absurd rfl h, fun _ => ⟨rfl, by simp [hq]⟩, hl⟩
    · rw [if_neg hg] at hl ⊢
      rw [if_neg hg]
      exact ⟨by simp [Un.firstE], fun _ => ⟨rfl, rfl⟩, fun h => absurd h (by decide), hl⟩
  · rw [if_neg hv] at hl ⊢
    rw [if_neg hv]
    exact ⟨by simp [Un.firstE], fun _ => ⟨rfl, rfl⟩, fun h => absurd h (by decide), hl⟩
set_option maxRecDepth 100000 in
set_option maxHeartbeats 8000000 in
theorem apply_any (xs ys : List Nt) (a b : Option Addr) (c d : Nat) (w : World) (hx : RowN w a xs) (hna : a = none → c = 0) (hlc : xs.length ≤ c) (hy : RowN w b ys) (hnb : b = none → d = 0) (hld : ys.length ≤ d) (hlx : xs.length ≤ 100000) (hly : ys.length ≤ 100000) :
    Calls Tryz.prog 25 #[.slice a xs.length c, .slice b ys.length d] w fun e w' => ∃ v u, e = .returned (.tuple #[v, u, .int .i64 (appP xs ys).2.2]) ∧ ON w' w.heap.size EN v (appP xs ys).1 ∧ G.OI w' w.heap.size 21 .i32 u (appP xs ys).2.1 ∧ Below w.heap.size w w' := by
  have HJ := Lib.hid (join_any xs ys a b c d w hx hna hlc hy hnb hld (by omega) (by omega))
  have HPl := Lib.hid (app_plain xs ys)
  have HRu := Lib.hid (fun (w : World) (a : Option Addr) (c : Nat) (h : RowN w a (joinP xs ys).1) => Un.runes_prog (joinP xs ys).1 a c w h (by have := HPl.out.2.2.2; omega))
  clear hx hna hlc hy hnb hld hlx hly
  generalize appP xs ys = RZ at *
  generalize joinP xs ys = JP at *
  obtain ⟨JL, e1⟩ := JP
  simp only at HJ HPl HRu
  generalize Un.runesQ JL = RU at *
  obtain ⟨RL, e2⟩ := RU
  simp only at HPl HRu
  go_enter Tryz.func25, Tryz.ntmps25
  go_wp2_with fail
  refine HJ.out.mono ?_
  rintro e w2 ⟨v2, rfl, ho, hb⟩
  obtain ⟨a2, c2, rfl, hr2, -⟩ := ON.row ho
  have HB2 := Lib.hid hb
  have HO2 := Lib.hid ho
  have HR2 := Lib.hid hr2
  clear ho hb hr2 HJ
  go_wp2_with fail
  refine (HRu.out _ _ _ HR2.out).mono ?_
  rintro e w3 ⟨v3, rfl, ho, hb⟩
  have HB3 := bel_tr HB2 hb
  have HO3 := Lib.hid (HO2.out.below hb)
  have HI3 := Lib.hid ho
  have HBs : Hid (w.heap.size ≤ w2.heap.size) := HB2.out.size
  clear ho hb HR2 HRu HO2 HB2
  have hb := bel_box w3 (.cells ⟨[.int .i64 e1, .int .i64 e2]⟩ 29)
  have HL : Hid (G.RowI .i64 (w3.alloc (.cells ⟨[.int .i64 e1, .int .i64 e2]⟩ 29)) (some ⟨w3.heap.size, 0, none⟩) [e1, e2]) := G.RowI.lit .i64 w3 _ rfl [e1, e2] ⟨[.int .i64 e1, .int .i64 e2]⟩ _ rfl
  have HB6 := bel_tr HB3 hb
  have HO6 := Lib.hid (HO3.out.below hb)
  have HI6 : Hid (G.OI (w3.alloc (.cells ⟨[.int .i64 e1, .int .i64 e2]⟩ 29)) w.heap.size 21 .i32 v3 RL) := (HI3.out.below hb).mono HBs.out
  clear hb HB3 HO3 HI3 HBs
  go_wp2_with fail
  refine (firstE_any [e1, e2] _ 0 2 2 rfl _ HL.out (by simp)).mono ?_
  rintro e w7 ⟨rfl, rfl⟩
  clear HL
  generalize w3.alloc (.cells ⟨[.int .i64 e1, .int .i64 e2]⟩ 29) = w7 at *
  obtain ⟨hE, hN, hY, -⟩ := HPl.out
  clear HPl
  rw [hE]
  clear hE
  by_cases hz : RZ.2.2 = 0
  · obtain ⟨h1, h2⟩ := hY hz
    have HO7 : Hid (ON w7 w.heap.size EN (.slice a2 JL.length c2) RZ.1) := by show ON _ _ _ _ _; rw [← h1]; exact HO6.out
    have HI7 : Hid (G.OI w7 w.heap.size 21 .i32 v3 RZ.2.1) := by show G.OI _ _ _ _ _ _; rw [← h2]; exact HI6.out
    have HZ := Lib.hid hz
    have hz2 : (RZ.2.2 != 0) = false := by rw [hz]; rfl
    clear h1 h2 hz hY hN HO6 HI6
    go_wp2_with fail
    go_ret3
    rw [HZ.out]
    exact ⟨_, _, rfl, HO7.out, HI7.out, HB6.out⟩
  · have hz2 : (RZ.2.2 != 0) = true := by rw [bne_iff_ne]; exact hz
    have HN := Lib.hid (hN hz)
    clear hY hN hz
    go_wp2_with fail
    go_ret3
    rw [HN.out.1, HN.out.2]
    exact ⟨_, _, rfl, ON.nil _ _ _, G.OI.nil _ _ _ _, HB6.out⟩
end Go.Proofs.YtkcbekebleodaaaGreat.Ed
end
