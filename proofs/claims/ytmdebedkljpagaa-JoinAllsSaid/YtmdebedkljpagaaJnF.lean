/-
  Layer 14's reference: the join.
-/
import Derived.Test.YtmdebedkljpagaaJnE
namespace Go.Proofs.Ytmdebedkljpagaa.Jn
set_option linter.unusedVariables false
open Go.RowKit V Go.Sort D Nd Qs
attribute [local irreducible] Sch.heldN Sch.stepV Sch.stepE

theorem step_none {l : List Nt} {n : Nt} (h : atS l n.1 = none) : stepR l n = putR l n := by
  unfold stepR
  rw [hit_at, h]
  rfl
theorem step_some {l : List Nt} {n : Nt} {k : Nat} (hk : k < l.length) (hi : idxS l n.1 = (k : Int)) (h : atS l n.1 = some l[k]) : stepR l n = l.set k (mrgR l[k] n) := by
  have e : hitS l n.1 = k := by
    unfold idxS at hi
    rw [h] at hi
    simp only [Option.isSome_some, if_true] at hi
    exact Int.ofNat_inj.1 hi
  unfold stepR
  rw [hit_at, h, e]
theorem putR_len (l : List Nt) (n : Nt) : (putR l n).length = l.length + 1 := by
  unfold putR
  rw [List.length_append, List.length_cons, List.length_take, List.length_drop]
  have := posS_le l n.1
  omega
theorem step_len (l : List Nt) (n : Nt) : (stepR l n).length ≤ l.length + 1 := by
  unfold stepR
  split
  · rw [List.length_set]; omega
  · exact Nat.le_of_eq (putR_len l n)
theorem joinR_len (b : List Nt) : ∀ a : List Nt, (joinR a b).length ≤ a.length + b.length := by
  induction b with
  | nil => exact fun a => Nat.le_refl _
  | cons n t ih =>
    intro a
    have h1 := ih (stepR a n)
    have h2 := step_len a n
    show (joinR (stepR a n) t).length ≤ a.length + (t.length + 1)
    omega
theorem joinR_take {a b : List Nt} {k : Nat} (hk : k < b.length) : joinR a (b.take (k + 1)) = stepR (joinR a (b.take k)) b[k] := by
  unfold joinR
  rw [foldl_take _ _ _ _ hk]
theorem ON.some {w : World} {base : Nat} {E : TypeId} {a : Option Addr} {n c : Nat} {l : List Nt} (h : ON w base E (.slice a n c) l) {b o : Nat} (e : a = some ⟨b, o, none⟩) : o = 0 ∧ base ≤ b := by
  obtain ⟨a', c', e', -, -, -, hx⟩ := Qs.ON.row h
  simp only [Value.slice.injEq] at e'
  obtain ⟨rfl, -, -⟩ := e'
  have := hx _ e
  simp only [Addr.mk.injEq, and_true, true_and] at this
  exact ⟨this.1, this.2.2.1⟩
/-- A node of a row. -/
def Kq (b o : Nat) (n : Nt) (w : World) : Prop := Na w b o n
theorem Kq.keep {b o : Nat} {n : Nt} {w w' : World} (h : Kq b o n w) (hb : Below w.heap.size w w') : Kq b o n w' := Na.keep h hb
theorem Kq.l {b o : Nat} {n : Nt} : ∀ w, Kq b o n w → (Instr.loadAt 44 (.pointer (some ⟨b, o, none⟩))).run Try.prog w = .ok (nv n) w := fun w k => Na.load k
set_option maxRecDepth 100000 in
set_option maxHeartbeats 8000000 in
theorem join_ref (xs ys : List Nt) (a b : Option Addr) (c d : Nat) (w : World) (hx : RowN w a xs) (hna : a = none → c = 0) (hy : RowN w b ys) (hlx : xs.length ≤ 100000) (hly : ys.length ≤ 100000) :
    Calls Try.prog 20 #[.slice a xs.length c, .slice b ys.length d] w fun e w' => ∃ v, e = .returned v ∧ ON w' w.heap.size 44 v (joinR xs ys) ∧ Below w.heap.size w w' := by
  have HX := Lib.hid hx
  have HY := Lib.hid hy
  have HNa := Lib.hid hna
  have HLx := Lib.hid hlx
  have HLy := Lib.hid hly
  have hli : (ys.length : Int) ≤ 100000 := by omega
  clear hx hy hlx hly hna
  go_enter Try.func20, Try.ntmps20
  go_wp2_with (at_builtin; refine wpList_appN rfl _ _ _ rfl Try.underlying23 infoN (.slice none 0 0) [] rfl (ON.nil _ w.heap.size _) a xs c xs.length rfl rfl HX.out HNa.out (by have := HLx.out; simp only [List.length_nil]; omega) (Nat.le_refl _) ?_)
  intro v5 w5 ho hg _
  have HO5 : Hid (ON w5 w.heap.size 44 v5 (joinR xs (ys.take 0))) := ho
  have HB5 := Lib.hid (bel_none hg)
  clear ho hg HX HNa
  go_wp2_with fail
  go_loopw [5, 6, 7] (fun v i _ wr => ∃ k : Nat, k ≤ ys.length ∧ i = .int .i64 (k : Int) ∧ Hid (Below w.heap.size w wr) ∧ Hid (ON wr w.heap.size 44 v (joinR xs (ys.take k)))) (fun _ i _ _ => ys.length - (intOf i).toNat)
  case atStart => exact ⟨0, Nat.zero_le _, rfl, HB5, HO5⟩
  case round =>
    clear HB5 HO5
    obtain ⟨k, hk, rfl, hh, HO⟩ := hrel
    by_cases hlt : k < ys.length
    · have hi0 : (k : Int) < (ys.length : Int) := by omega
      obtain ⟨b1, o1, rfl, hna⟩ := na_of (HY.out.keep hh.out) k hlt
      have HBl : Hid (b1 < w.heap.size) := lt_of_row HY.out (by omega)
      have hix := ixS b1 o1 ys.length d k (k : Int) rfl hlt
      have HSt : Hid (joinR xs (ys.take (k + 1)) = stepR (joinR xs (ys.take k)) ys[k]) := joinR_take hlt
      have HLl : Hid ((joinR xs (ys.take k)).length ≤ 200000) := by
        have h1 := joinR_len (ys.take k) xs
        rw [List.length_take] at h1
        have := HLx.out
        have := HLy.out
        show _ ≤ _
        omega
      obtain ⟨q, hq⟩ : ∃ q, q = ys[k] := ⟨_, rfl⟩
      rw [← hq] at hna HSt
      clear hq
      generalize joinR xs (ys.take k) = L at *
      obtain ⟨aL, cL, rfl, hrL, hnL, hcL, -⟩ := ON.row HO.out
      have HRl := Lib.hid hrL
      have HNl : Hid (aL = none → cL = 0) := fun h => (hnL h).1
      have HCl := Lib.hid hcL
      clear hrL hnL hcL
      have HN := Lib.hid hna
      have HF := Lib.hid (fun w h => find_ref L q.1 aL cL w h (by have := HLl.out; omega))
      have HIx := Lib.hid (idx_eq (l := L) (d := q.1))
      have HPn := Lib.hid (fun h => HSt.out.trans (step_none (l := L) (n := q) h))
      have HPs := Lib.hid (fun k2 hk2 hi h => HSt.out.trans (step_some (l := L) (n := q) (k := k2) hk2 hi h))
      obtain ⟨n0, n1, -⟩ := hna
      generalize hR : idxS L q.1 = r at *
      clear hR
      go_wp2_with fail
      refine (HF.out _ HRl.out).mono ?_
      rintro e w2 ⟨rfl, hb⟩
      have hh2 := bel_tr hh hb
      have HN2 := Lib.hid (HN.out.keep hb)
      have HO2 := Lib.hid (HO.out.below hb)
      have HR2 := Lib.hid (HRl.out.keep hb)
      clear hb HF n0 n1 HN hh HO HRl
      rcases HIx.out with ⟨rfl, hat⟩ | ⟨k2, hk2, rfl, hat⟩
      · have HE := Lib.hid (HPn.out hat)
        have HP := Lib.hid (fun w h => put_ref L q aL cL w h HNl.out HCl.out (by have := HLl.out; omega))
        have HSz : Hid (w.heap.size ≤ w2.heap.size) := hh2.out.size
        clear hat HPn HPs HIx HO2
        obtain ⟨n0, n1, n2, n3, n4, n5⟩ := HN2.out
        go_wp2_with fail
        refine (HP.out _ HR2.out).mono ?_
        rintro e w3 ⟨v3, rfl, ho, hb⟩
        rw [← HE.out] at ho
        have HO3 : Hid (ON w3 w.heap.size 44 v3 (joinR xs (ys.take (k + 1)))) := ho.mono fun x hx => Nat.le_trans HSz.out (ho.lt x hx).1
        have hh3 := bel_tr hh2 hb
        clear ho hb
        go_wp2_with fail
        go_roundw
        case rel => exact ⟨k + 1, by omega, by go_num, hh3, HO3⟩
        case measure => simp [intOf]; omega
      · have HE := Lib.hid (HPs.out k2 hk2 rfl hat)
        have h0 : (0 : Int) ≤ (k2 : Int) := by omega
        obtain ⟨g, og, hag, -⟩ := na_of HR2.out k2 hk2
        obtain ⟨hog, hbg⟩ := Jn.ON.some HO2.out hag
        subst hog
        subst hag
        have HGb := Lib.hid hbg
        have HGs : Hid (g < w2.heap.size) := (HO2.out.lt g rfl).2
        have HMk := Lib.hid (HO2.out.na k2 hk2)
        have hix2 := ixS g 0 L.length cL k2 (k2 : Int) rfl hk2
        simp only [Nat.zero_add] at hix2
        obtain ⟨p, hp⟩ : ∃ p, p = L[k2] := ⟨_, rfl⟩
        rw [← hp] at HE HMk
        clear hp hat HIx HPn HPs
        have HM := Lib.hid (fun w => merge_ref p q w)
        generalize mrgR p q = M at *
        generalize agreeN p q = ag at *
        have HK : Hid (Kq b1 (o1 + k * 6) q w2.drew) := HN2.out.keep (Below.refl _ _).drew
        have HMd := Lib.hid (HMk.out.keep (Below.refl _ _).drew)
        have HB0 : Hid (Below w.heap.size w w2.drew) := hh2.out.drew
        have HO0 : Hid (ON w2.drew w.heap.size 44 (.slice (some ⟨g, 0, none⟩) L.length cL) L) := HO2.out.below (Below.refl _ _).drew
        have HK2 := Lib.hid hk2
        clear HMk HN2 HO2 HR2 hbg
        go_wp2_with fail
        refine Sch.wp_region_tn (Kq b1 (o1 + k * 6) q) (.val 0 (.val 1 (.val 2 (.val 3 (.val 4 (.val 6 (.val 7 (.val 8 (.val 9 (.one 5 (.one 10 (.val 11 (.val 12 (.val 13 (.val 14 (.one 15 .done)))))))))))))))) (by kernel_rfl) (by kernel_rfl) HK.out ?_
        repeat (first
          | (refine Sch.tn_q rfl rfl rfl (fun K hK => ?_); go_big_quiet_op; (first | refine hK _ ?_ | refine ⟨_, fun _ _ => rfl, hK _ ?_⟩); clear hK K)
          | (refine Sch.tn_chk _ _ _ rfl rfl rfl rfl rfl ?_; simp only [Act.put, List.setIfInBounds_toArray, List.set_cons_zero, List.set_cons_succ])
          | (refine Sch.tn_load _ _ _ _ _ rfl rfl rfl rfl (by first | exact Kq.l) rfl ?_; simp only [Act.put, List.setIfInBounds_toArray, List.set_cons_zero, List.set_cons_succ]))
        generalize w2.drew = w3 at *
        obtain ⟨m0, m1, m2, m3, m4, m5⟩ := HMd.out
        refine Sch.tn_e rfl rfl (fun K hK => ?_)
        go_wp2_with fail
        refine hK _ _ HK.out ?_
        clear hK K
        clear m0 m1 m2 m3 m4 m5
        repeat (first
          | (refine Sch.tn_q rfl rfl rfl (fun K hK => ?_); go_big_quiet_op; (first | refine hK _ ?_ | refine ⟨_, fun _ _ => rfl, hK _ ?_⟩); clear hK K)
          | (refine Sch.tn_chk _ _ _ rfl rfl rfl rfl rfl ?_; simp only [Act.put, List.setIfInBounds_toArray, List.set_cons_zero, List.set_cons_succ])
          | (refine Sch.tn_load _ _ _ _ _ rfl rfl rfl rfl (by first | exact Kq.l) rfl ?_; simp only [Act.put, List.setIfInBounds_toArray, List.set_cons_zero, List.set_cons_succ]))
        refine Sch.tn_e rfl rfl (fun K hK => ?_)
        go_wp2_with fail
        refine (HM.out _).mono ?_
        rintro e w4 ⟨rfl, hb⟩
        have HB4 := bel_tr HB0 hb
        have HK4 := Lib.hid (HK.out.keep hb)
        have HO4 := Lib.hid (HO0.out.below hb)
        have HM4 := Lib.hid (HMd.out.keep hb)
        clear hb HB0 HK HO0 HMd
        refine hK _ _ HK4.out ?_
        clear hK K
        repeat (first
          | (refine Sch.tn_q rfl rfl rfl (fun K hK => ?_); go_big_quiet_op; (first | refine hK _ ?_ | refine ⟨_, fun _ _ => rfl, hK _ ?_⟩); clear hK K)
          | (refine Sch.tn_chk _ _ _ rfl rfl rfl rfl rfl ?_; simp only [Act.put, List.setIfInBounds_toArray, List.set_cons_zero, List.set_cons_succ])
          | (refine Sch.tn_load _ _ _ _ _ rfl rfl rfl rfl (by first | exact Kq.l) rfl ?_; simp only [Act.put, List.setIfInBounds_toArray, List.set_cons_zero, List.set_cons_succ]))
        have HO9 := Lib.hid (HO4.out.put HK2.out M)
        rw [← HE.out] at HO9
        have HB9 := Lib.hid (putAt_below HB4.out HGb.out (k2 * 6) M)
        have HK9 : Hid (Kq b1 (o1 + k * 6) q (putAt w4 g (k2 * 6) M)) := na_gb HK4.out (putAt_gb _ _ _ _) (by have := HBl.out; have := HGb.out; omega)
        obtain ⟨m0, m1, m2, m3, m4, m5⟩ := HM4.out
        have f0 := HO4.out.free (k2 * 6)
        have f1 := HO4.out.free (k2 * 6 + 1)
        have f2 := HO4.out.free (k2 * 6 + 2)
        have f3 := HO4.out.free (k2 * 6 + 3)
        have f4 := HO4.out.free (k2 * 6 + 4)
        have f5 := HO4.out.free (k2 * 6 + 5)
        refine Sch.tn_e rfl rfl (fun K hK => ?_)
        go_wp2_with fail
        refine hK _ (putAt w4 g (k2 * 6) M) HK9.out ?_
        clear hK K m0 m1 m2 m3 m4 m5 f0 f1 f2 f3 f4 f5
        refine Sch.tn_n ?_
        go_wp2_with fail
        go_roundw
        case rel => exact ⟨k + 1, by omega, by go_num, HB9, HO9⟩
        case measure => simp [intOf]; omega
    · obtain rfl : k = ys.length := by omega
      have hend : ¬ (ys.length : Int) < (ys.length : Int) := by omega
      rw [List.take_length] at HO
      go_wp2_with fail
      go_ret
      exact ⟨_, rfl, HO.out, hh.out⟩
end Go.Proofs.Ytmdebedkljpagaa.Jn
