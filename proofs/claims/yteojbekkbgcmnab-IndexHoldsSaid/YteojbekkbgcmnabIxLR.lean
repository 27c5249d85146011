/-
  The reference of layer 12.
-/
import Derived.Test.YteojbekkbgcmnabIxLA
import Derived.Test.YteojbekkbgcmnabMWBel
import Derived.Test.YteojbekkbgcmnabMRTextC
namespace Go.Proofs.Yteojbekkbgcmnab.Un
set_option linter.unusedVariables false
open Go.RowKit V Go.Shelf Go.Sort D Nd Qs Wk Ix
attribute [local irreducible] Sch.heldN Sch.stepV Sch.stepE

theorem alive_step {l : List Nt} {k : Nat} (h : k < l.length) : aliveL (l.take (k + 1)) = if l[k].2.2.2 = 0 then aliveL (l.take k) else aliveL (l.take k) ++ [l[k]] := by
  unfold aliveL
  rw [List.take_succ_eq_append_getElem h, List.filter_append]
  by_cases e : l[k].2.2.2 = 0
  · rw [if_pos e]
    have : deadN l[k] = true := by unfold deadN; simpa using e
    simp [this]
  · rw [if_neg e]
    have : deadN l[k] = false := by unfold deadN; simpa using e
    simp [this]
theorem alive_lenT (l : List Nt) (k : Nat) : (aliveL (l.take k)).length ≤ l.length := by
  have h1 : (aliveL (l.take k)).length ≤ (l.take k).length := List.length_filter_le _ _
  rw [List.length_take] at h1
  omega
set_option maxRecDepth 100000 in
set_option maxHeartbeats 4000000 in
theorem aliveR_ref (l : List Nt) (a : Option Addr) (c : Nat) (w : World) (hx : RowN w a l) (hlx : l.length ≤ 400000) :
    Calls Try.prog 42 #[.slice a l.length c] w fun e w' => ∃ v, e = .returned v ∧ ON w' w.heap.size EN v (aliveL l) ∧ Below w.heap.size w w' := by
  have HX := Lib.hid hx
  have hli : (l.length : Int) ≤ 400000 := by omega
  clear hx hlx
  go_enter Try.func42, Try.ntmps42
  go_wp2_with fail
  go_loopw [3, 4] (fun v i wr => ∃ k : Nat, k ≤ l.length ∧ i = .int .i64 (k : Int) ∧ Hid (Below w.heap.size w wr) ∧ Hid (ON wr w.heap.size EN v (aliveL (l.take k)))) (fun _ i _ => l.length - (intOf i).toNat)
  case atStart => exact ⟨0, Nat.zero_le _, rfl, Below.refl _ _, ON.nil _ _ _⟩
  case round =>
    obtain ⟨k, hk, rfl, HB, HO⟩ := hrel
    by_cases hlt : k < l.length
    · have hi0 : (k : Int) < (l.length : Int) := by omega
      obtain ⟨b1, o1, rfl, hna⟩ := na_of (HX.out.keep HB.out) k hlt
      have hix := ixN b1 o1 l.length c k (k : Int) rfl hlt
      have HSt := Lib.hid (alive_step hlt)
      have HKl := Lib.hid (alive_lenT l k)
      obtain ⟨q, hq⟩ : ∃ q, q = l[k] := ⟨_, rfl⟩
      rw [← hq] at hna HSt
      clear hq
      generalize hL : aliveL (l.take k) = L at *
      generalize hL2 : aliveL (l.take (k + 1)) = L2 at *
      clear hL
      by_cases hz : q.2.2.2 = 0
      · have HSt2 : Hid (L2 = L) := HSt.out.trans (if_pos hz)
        obtain ⟨n0, n1, n2, n3, n4, n5⟩ := hna
        obtain ⟨⟨q1, q2⟩, ⟨q3, q4⟩, q5, q6⟩ := q
        obtain rfl : q6 = 0 := hz
        clear HSt
        go_wp2_with fail
        refine ⟨⟨k + 1, by omega, by go_num, HB, by rw [hL2, HSt2.out]; exact HO⟩, ?_⟩
        simp [intOf]; omega
      · have HSt2 : Hid (L2 = L ++ [q]) := HSt.out.trans (if_neg hz)
        have hb2 := bel_box wr (.cells (nc q) 37)
        have HB2 := Lib.hid (bel_tr HB.out hb2)
        have HO2 := Lib.hid (HO.out.below hb2)
        have HLt : Hid (RowN (wr.alloc (.cells (nc q) 37)) (some ⟨wr.heap.size, 0, none⟩) [q]) := RowN.lit wr [q] (nc q) _ _ rfl
        clear hb2 HSt
        obtain ⟨n0, n1, n2, n3, n4, n5⟩ := hna
        obtain ⟨⟨q1, q2⟩, ⟨q3, q4⟩, q5, q6⟩ := q
        have hz2 : ¬ q6 = 0 := hz
        clear hz
        go_wp2_with (at_builtin; refine wpList_appN rfl _ _ _ rfl Try.underlying22 infoN _ _ rfl HO2.out (some ⟨wr.heap.size, 0, none⟩) [((q1, q2), (q3, q4), q5, q6)] 1 1 rfl rfl HLt.out (fun h => by cases h) (by have := HKl.out; simp only [List.length_cons, List.length_nil]; omega) HB2.out.size ?_)
        intro v8 w8 ho hg _
        have HO8 : Hid (ON w8 w.heap.size EN v8 L2) := by show ON _ _ _ _ _; rw [HSt2.out]; exact ho
        have HB8 := Lib.hid (HB2.out.grown hg HB2.out.size (fun x hx => (HO2.out.lt x hx).1))
        clear ho hg n0 n1 n2 n3 n4 n5
        go_wp2_with fail
        refine ⟨⟨k + 1, by omega, by go_num, HB8, by rw [hL2]; exact HO8⟩, ?_⟩
        simp [intOf]; omega
    · obtain rfl : k = l.length := by omega
      have hend : ¬ (l.length : Int) < (l.length : Int) := by omega
      rw [List.take_length] at HO
      go_wp2_with fail
      go_ret
      exact ⟨_, rfl, HO.out, HB.out⟩
set_option maxRecDepth 100000 in
set_option maxHeartbeats 1000000 in
theorem visR_ref (l : List Nt) (hv : validS l = true) (hlx : l.length ≤ 300000) (a : Option Addr) (c : Nat) (w : World) (hx : RowN w a l) :
    Calls Try.prog 19 #[.slice a l.length c] w fun e w' => ∃ v, e = .returned v ∧ ON w' w.heap.size EN v (visS l) ∧ Below w.heap.size w w' := by
  have HC := Lib.hid (order_ref l hv hlx a c w hx)
  have HA := Lib.hid (fun a c w h => aliveR_ref (orderS l) a c w h (by have := both_len hv; omega))
  rw [show aliveL (orderS l) = visS l from rfl] at HA
  clear hx hv hlx
  go_enter Try.func19, Try.ntmps19
  go_wp2_with fail
  refine HC.out.mono ?_
  rintro e w2 ⟨v2, rfl, ho, hb⟩
  obtain ⟨a2, c2, rfl, hr, -⟩ := ON.row ho
  have HB := Lib.hid hb
  have HW := Lib.hid hr
  clear ho hb hr HC
  go_wp2_with fail
  refine (HA.out _ _ _ HW.out).mono ?_
  rintro e w3 ⟨v3, rfl, ho, hb⟩
  have HB3 := Lib.hid (bel_tr HB.out hb)
  have HO3 := Lib.hid (ho.mono (fun x e => Nat.le_trans HB.out.size (ho.lt x e).1))
  clear ho hb HA
  go_wp2_with fail
  go_ret
  exact ⟨_, rfl, HO3.out, HB3.out⟩
set_option maxRecDepth 100000 in
set_option maxHeartbeats 4000000 in
theorem runesR_ref (l : List Nt) (hv : validS l = true) (hlx : l.length ≤ 300000) (a : Option Addr) (c : Nat) (w : World) (hx : RowN w a l) :
    Calls Try.prog 14 #[.slice a l.length c] w fun e w' => ∃ v, e = .returned v ∧ G.OI w' w.heap.size 21 .i32 v (runesS l) ∧ Below w.heap.size w w' := by
  have HC := Lib.hid (visR_ref l hv hlx a c w hx)
  have HVl : Hid ((visS l).length ≤ 300000) := by have := vis_len hv; show _ ≤ _; omega
  have HE : Hid (runesS l = (visS l).map (fun n => n.2.2.2)) := rfl
  clear hx hv hlx
  generalize runesS l = R at *
  generalize visS l = V at *
  have hvi : (V.length : Int) ≤ 300000 := by have := HVl.out; omega
  go_enter Try.func14, Try.ntmps14
  go_wp2_with fail
  refine HC.out.mono ?_
  rintro e w2 ⟨v2, rfl, ho, hb⟩
  obtain ⟨a2, c2, rfl, hr, -⟩ := ON.row ho
  have HB := Lib.hid hb
  have HW := Lib.hid hr
  clear ho hb hr HC
  go_wp2_with fail
  go_loopw [3, 5] (fun v i wr => ∃ k : Nat, k ≤ V.length ∧ i = .int .i64 (k : Int) ∧ Hid (Below w2.heap.size w2 wr) ∧ Hid (G.OI wr w2.heap.size 21 .i32 v ((V.take k).map fun n => n.2.2.2))) (fun _ i _ => V.length - (intOf i).toNat)
  case atStart => exact ⟨0, Nat.zero_le _, rfl, Below.refl _ _, G.OI.nil _ _ _ _⟩
  case round =>
    obtain ⟨k, hk, rfl, HZ, HO⟩ := hrel
    by_cases hlt : k < V.length
    · have hi0 : (k : Int) < (V.length : Int) := by omega
      obtain ⟨b1, o1, e1, hna⟩ := na_of (HW.out.keep HZ.out) k hlt
      have HT := Lib.hid (taken_succ hlt)
      have HKl : Hid (((V.take k).map fun n => n.2.2.2).length ≤ 300000) := by have := HVl.out; show _ ≤ _; rw [List.length_map, List.length_take]; omega
      obtain ⟨q, hq⟩ : ∃ q, q = V[k] := ⟨_, rfl⟩
      rw [← hq] at hna HT
      subst e1
      have hix := ixN b1 o1 V.length c2 k (k : Int) rfl hlt
      clear hq
      have hb2 := bel_box wr (.cells #[.int .i32 q.2.2.2] 21)
      have HZ2 := Lib.hid (bel_tr HZ.out hb2)
      have HO2 := Lib.hid (HO.out.below hb2)
      clear hb2
      generalize hL : ((V.take k).map fun n => n.2.2.2) = L at *
      generalize hL2 : ((V.take (k + 1)).map fun n => n.2.2.2) = L2 at *
      obtain ⟨n0, n1, n2, n3, n4, n5⟩ := hna
      obtain ⟨⟨q1, q2⟩, ⟨q3, q4⟩, q5, q6⟩ := q
      clear hL
      go_wp2_with (at_builtin; refine G.wpList_appI rfl (.tmp 14) (.tmp 20) 30 rfl Try.underlying30 infoR _ L rfl HO2.out wr.heap.size 0 1 1 [q6] rfl rfl (G.RowI.lit .i32 _ _ (by simp) [q6] _ _ rfl) (by have := HKl.out; simp; omega) (by omega) HZ2.out.size ?_; intro v' w' ho' hg' hgr')
      have HO7 : Hid (G.OI w' w2.heap.size 21 .i32 v' L2) := by show G.OI _ _ _ _ _ _; rw [HT.out]; exact ho'
      have HZ7 := Lib.hid (HZ2.out.grown hg' HZ2.out.size (fun x hx => (HO2.out.lt x hx).1))
      clear ho' hg' hgr'
      refine ⟨⟨k + 1, by omega, by go_num, HZ7, by rw [hL2]; exact HO7⟩, ?_⟩
      simp [intOf]; omega
    · obtain rfl : k = V.length := by omega
      have hend : ¬ (V.length : Int) < (V.length : Int) := by omega
      rw [List.take_length, ← HE.out] at HO
      have HB4 := Lib.hid (bel_tr HB.out HZ.out)
      have HO4 := Lib.hid (HO.out.mono HB.out.size)
      clear HO
      go_wp2_with fail
      go_ret
      exact ⟨_, rfl, HO4.out, HB4.out⟩
theorem runes_i32 {l : List Nt} (hv : validS l = true) (hi : ∀ x ∈ l, i32 x.2.2.2) : ∀ z ∈ runesS l, -2147483648 ≤ z ∧ z ≤ 2147483647 := fun z hz => by
  unfold runesS at hz
  obtain ⟨x, hx, rfl⟩ := List.mem_map.1 hz
  exact hi x (vis_mem hv hx).1
theorem runes_vld {l : List Nt} (hv : validS l = true) : ∀ z ∈ runesS l, R.vld z = true := fun z hz => by
  unfold runesS at hz
  obtain ⟨x, hx, rfl⟩ := List.mem_map.1 hz
  exact (vis_mem hv hx).2.2
theorem runes_len (l : List Nt) : (runesS l).length = (visS l).length := by unfold runesS; rw [List.length_map]
set_option maxRecDepth 100000 in
set_option maxHeartbeats 1000000 in
theorem textR_ref (l : List Nt) (hv : validS l = true) (hlx : l.length ≤ 300000) (hi : ∀ x ∈ l, i32 x.2.2.2) (a : Option Addr) (c : Nat) (w : World) (hx : RowN w a l) :
    Calls Try.prog 13 #[.slice a l.length c] w fun e w' => e = .returned (.string ⟨(R.encR (runesS l)).1.toArray⟩) ∧ Below w.heap.size w w' := by
  have HC := Lib.hid (runesR_ref l hv hlx a c w hx)
  have HEn := Lib.hid (fun a c w h => R.rencode_any (runesS l) a c w (by rw [runes_len]; have := vis_len hv; omega) (runes_i32 hv hi) h)
  clear hx hv hlx hi
  generalize runesS l = rs at *
  generalize R.encR rs = en at *
  obtain ⟨bs, ec⟩ := en
  simp only at HEn
  go_enter Try.func13, Try.ntmps13
  go_wp2_with fail
  refine HC.out.mono ?_
  rintro e w2 ⟨v2, rfl, ho, hb⟩
  obtain ⟨a2, c2, rfl, hr, -⟩ := G.OI.row ho
  have HB := Lib.hid hb
  have HW := Lib.hid hr
  clear ho hb hr HC
  go_wp2_with fail
  refine (HEn.out _ _ _ HW.out).mono ?_
  rintro e w3 ⟨rfl, hb⟩
  have HB3 := Lib.hid (bel_tr HB.out hb)
  clear hb HEn
  go_wp2_with fail
  go_ret
  exact ⟨rfl, HB3.out⟩
set_option maxRecDepth 100000 in
set_option maxHeartbeats 1000000 in
theorem ofR_ref (l : List Nt) (d : Dt) (hv : validS l = true) (hlx : l.length ≤ 300000) (a : Option Addr) (c : Nat) (w : World) (hx : RowN w a l) :
    Calls Try.prog 21 #[.slice a l.length c, dv d] w fun e w' => e = .returned (.int .i64 (idxS (visS l) d)) ∧ Below w.heap.size w w' := by
  have HB := Lib.hid (bel_box w (.cells #[.int .i64 d.1, .int .i64 d.2] 34))
  have HD := Lib.hid (bd_new w d)
  have HX := Lib.hid (hx.keep HB.out)
  have HC := Lib.hid (fun w h => visR_ref l hv hlx a c w h)
  have HF := Lib.hid (fun a c w h => find_ref (visS l) d a c w h (by have := vis_len hv; omega))
  clear hx hv hlx
  generalize visS l = V at *
  go_enter Try.func21, Try.ntmps21
  go_wp2_with fail
  generalize w.alloc (.cells #[.int .i64 d.1, .int .i64 d.2] 34) = w1 at *
  have hb := (Below.refl w1.heap.size w1).drew
  replace HB := Lib.hid (bel_tr HB.out hb)
  replace HX := Lib.hid (HX.out.keep hb)
  replace HD := Lib.hid (HD.out.keep hb)
  clear hb
  refine Sch.wp_region_tn (fun w' => Bd w' w.heap.size d) (.val 0 (.val 2 (.one 1 (.one 3 (.val 4 .done))))) (by kernel_rfl) (by kernel_rfl) HD.out ?_
  repeat (first
    | (refine Sch.tn_q rfl rfl rfl (fun K hK => ?_); go_big_quiet_op; (first | refine hK _ ?_ | refine ⟨_, fun _ _ => rfl, hK _ ?_⟩); clear hK K)
    | (refine Sch.tn_chk _ _ _ rfl rfl rfl rfl rfl ?_; simp only [Act.put, List.setIfInBounds_toArray, List.set_cons_zero, List.set_cons_succ])
    | (refine Sch.tn_load _ _ _ _ _ rfl rfl rfl rfl (by first | exact (fun w h => load_dotB h)) rfl ?_; simp only [Act.put, List.setIfInBounds_toArray, List.set_cons_zero, List.set_cons_succ]))
  generalize w1.drew = w2 at *
  refine Sch.tn_e rfl rfl (fun K hK => ?_)
  go_wp2_with fail
  refine (HC.out _ HX.out).mono ?_
  rintro e w3 ⟨v3, rfl, ho, hb⟩
  obtain ⟨a3, c3, rfl, hr, -⟩ := ON.row ho
  replace HB := Lib.hid (bel_tr HB.out hb)
  replace HD := Lib.hid (HD.out.keep hb)
  have HW := Lib.hid hr
  clear ho hb hr HC
  refine hK _ _ HD.out ?_
  clear hK K
  refine Sch.tn_e rfl rfl (fun K hK => ?_)
  go_wp2_with fail
  refine (HF.out _ _ _ HW.out).mono ?_
  rintro e w4 ⟨rfl, hb⟩
  replace HB := Lib.hid (bel_tr HB.out hb)
  replace HD := Lib.hid (HD.out.keep hb)
  clear hb HF
  refine hK _ _ HD.out ?_
  clear hK K
  repeat (first
    | (refine Sch.tn_q rfl rfl rfl (fun K hK => ?_); go_big_quiet_op; (first | refine hK _ ?_ | refine ⟨_, fun _ _ => rfl, hK _ ?_⟩); clear hK K)
    | (refine Sch.tn_chk _ _ _ rfl rfl rfl rfl rfl ?_; simp only [Act.put, List.setIfInBounds_toArray, List.set_cons_zero, List.set_cons_succ])
    | (refine Sch.tn_load _ _ _ _ _ rfl rfl rfl rfl (by first | exact (fun w h => load_dotB h)) rfl ?_; simp only [Act.put, List.setIfInBounds_toArray, List.set_cons_zero, List.set_cons_succ]))
  refine Sch.tn_n ?_
  go_wp2_with fail
  go_ret
  exact ⟨rfl, HB.out⟩
def befR (l : List Nt) (d : Dt) : Int := if idxS (orderS l) d < 0 then -1 else ((aliveL ((orderS l).take (idxS (orderS l) d).toNat)).length : Int)
set_option maxRecDepth 100000 in
set_option maxHeartbeats 1000000 in
theorem befR_ref (l : List Nt) (d : Dt) (hv : validS l = true) (hlx : l.length ≤ 300000) (a : Option Addr) (c : Nat) (w : World) (hx : RowN w a l) :
    Calls Try.prog 22 #[.slice a l.length c, dv d] w fun e w' => e = .returned (.int .i64 (befR l d)) ∧ Below w.heap.size w w' := by
  have HB := Lib.hid (bel_box w (.cells #[.int .i64 d.1, .int .i64 d.2] 34))
  have HD := Lib.hid (bd_new w d)
  have HC := Lib.hid (order_ref l hv hlx a c _ (hx.keep HB.out))
  have hol : (orderS l).length ≤ 300000 := by have := both_len hv; omega
  have HF := Lib.hid (fun a c w h => find_ref (orderS l) d a c w h (by omega))
  have HA := Lib.hid (fun (k : Nat) a c w h => aliveR_ref ((orderS l).take k) a c w h (by rw [List.length_take]; omega))
  have HE : Hid (befR l d = if idxS (orderS l) d < 0 then -1 else ((aliveL ((orderS l).take (idxS (orderS l) d).toNat)).length : Int)) := rfl
  have HIb := Lib.hid (idx_bound (orderS l) d)
  clear hx hv hlx hol
  generalize befR l d = T at *
  generalize orderS l = V at *
  go_enter Try.func22, Try.ntmps22
  go_wp2_with fail
  generalize w.alloc (.cells #[.int .i64 d.1, .int .i64 d.2] 34) = w1 at *
  refine HC.out.mono ?_
  rintro e w3 ⟨v3, rfl, ho, hb⟩
  obtain ⟨a3, c3, rfl, hr, -, hlc, -⟩ := ON.row ho
  replace HB := Lib.hid (bel_tr HB.out hb)
  replace HD := Lib.hid (HD.out.keep hb)
  have HW := Lib.hid hr
  have HLc := Lib.hid hlc
  clear ho hb hr hlc HC
  have c0 := HD.out.c0
  have c1 := HD.out.c1
  go_wp2_with fail
  refine (HF.out _ _ _ HW.out).mono ?_
  rintro e w4 ⟨rfl, hb⟩
  replace HB := Lib.hid (bel_tr HB.out hb)
  replace HW := Lib.hid (HW.out.keep hb)
  clear hb HF c0 c1 HD
  rcases HIb.out with hi | ⟨k, hk, hi⟩
  · rw [hi] at HE ⊢
    have hT := HE.out
    rw [if_pos (by decide)] at hT
    clear HE hi HIb
    subst hT
    go_wp2_with fail
    go_ret
    exact ⟨rfl, HB.out⟩
  · rw [hi] at HE ⊢
    have hT := HE.out
    rw [if_neg (by omega), Int.toNat_natCast] at hT
    have hn0 : ¬ (k : Int) < 0 := by omega
    have hcut := cut_loN a3 V.length c3 k (by have := HLc.out; omega)
    have HLt : Hid ((V.take k).length = k) := by show _ = _; rw [List.length_take]; omega
    have HA2 := Lib.hid (HA.out k a3 c3 w4 (HW.out.take k))
    rw [HLt.out] at HA2
    clear HE hi HIb HA HLt
    subst hT
    go_wp2_with fail
    refine HA2.out.mono ?_
    rintro e w5 ⟨v5, rfl, ho, hb⟩
    obtain ⟨a5, c5, rfl, -⟩ := ON.row ho
    replace HB := Lib.hid (bel_tr HB.out hb)
    clear ho hb HA2
    go_wp2_with fail
    go_ret
    exact ⟨rfl, HB.out⟩
set_option maxRecDepth 100000 in
set_option maxHeartbeats 1000000 in
theorem dotsR_ref (l : List Nt) (hv : validS l = true) (hlx : l.length ≤ 300000) (a : Option Addr) (c : Nat) (w : World) (hx : RowN w a l) :
    Calls Try.prog 25 #[.slice a l.length c] w fun e w' => ∃ v, e = .returned v ∧ OD w' w.heap.size ED v (idotsS l) ∧ Below w.heap.size w w' := by
  have HC := Lib.hid (visR_ref l hv hlx a c w hx)
  have HA := Lib.hid (fun a c w h => dots_ref (visS l) false a c w h (by have := vis_len hv; omega))
  rw [dotsS_all, show (visS l).map (·.1) = idotsS l from rfl] at HA
  clear hx hv hlx
  generalize idotsS l = I at *
  go_enter Try.func25, Try.ntmps25
  go_wp2_with fail
  refine HC.out.mono ?_
  rintro e w2 ⟨v2, rfl, ho, hb⟩
  obtain ⟨a2, c2, rfl, hr, -⟩ := ON.row ho
  have HB := Lib.hid hb
  have HW := Lib.hid hr
  clear ho hb hr HC
  go_wp2_with fail
  refine (HA.out _ _ _ HW.out).mono ?_
  rintro e w3 ⟨v3, rfl, ho, hb⟩
  have HB3 := Lib.hid (bel_tr HB.out hb)
  have HO3 := Lib.hid (ho.mono (fun x e => Nat.le_trans HB.out.size (ho.lt x e).1))
  clear ho hb HA
  go_wp2_with fail
  go_ret
  exact ⟨_, rfl, HO3.out, HB3.out⟩
end Go.Proofs.Yteojbekkbgcmnab.Un
