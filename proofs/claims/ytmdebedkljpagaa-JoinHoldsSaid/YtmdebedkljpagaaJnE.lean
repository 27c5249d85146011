/-
  Layer 14's reference: a state with one more node.
-/
import Derived.Test.YtmdebedkljpagaaJnD
import Derived.Test.YtmdebedkljpagaaMQAdd
namespace Go.Proofs.Ytmdebedkljpagaa.Jn
set_option linter.unusedVariables false
open Go.RowKit V Go.Sort D Nd Qs
attribute [local irreducible] Sch.heldN Sch.stepV Sch.stepE

/-! ### Parts of rows of nodes -/
theorem cut_loN (a : Option Addr) (len cap n : Nat) (hn : n ≤ cap) : ∀ wx : World,
    (Instr.slice 23 (.slice a len cap) none (some (.int .i64 (n : Int))) none).run Try.prog wx = .ok (.slice a n cap) wx := by
  obtain ⟨i, hi, hz0, hz1, hz2⟩ := G.info_of infoN
  intro wx
  have h1 : (Instr.sliceBound (.int .i64 (n : Int)) cap .sliceAcap).run Try.prog wx = .ok n wx := by
    rw [run_sliceBound _ _ _ _ _ (by omega) (by omega)]; rfl
  have h0 : (⟨0, 0, none⟩ : Addr).add 0 = ⟨0, 0, none⟩ := rfl
  by_cases hc : cap = 0
  · rw [hc] at h1
    simp [Instr.slice, run_underlying Try.underlying23, Instr.sliceBounds, h1, Result.andThen, sizeOf, typeInfo, hi, hc]
  · have : a.map (fun x => x.add 0) = a := by
      rcases a with _ | ⟨b, o, s⟩
      · rfl
      · simp [Addr.add]
    simp [Instr.slice, run_underlying Try.underlying23, Instr.sliceBounds, h1, Result.andThen, sizeOf, typeInfo, hi, hc, this]
def offN (a : Option Addr) (cap m : Nat) : Option Addr := if cap = m then a else a.map (·.add (m * 6))
theorem cut_hiN (a : Option Addr) (len cap m k : Nat) (hk : len = m + k) (hlc : len ≤ cap) : ∀ wx : World,
    (Instr.slice 23 (.slice a len cap) (some (.int .i64 (m : Int))) none none).run Try.prog wx = .ok (.slice (offN a cap m) k (cap - m)) wx := by
  obtain ⟨i, hi, hz0, hz1, hz2⟩ := G.info_of infoN
  intro wx
  have h2 : (Instr.sliceBound (.int .i64 (m : Int)) len .sliceB).run Try.prog wx = .ok m wx := by
    rw [run_sliceBound _ _ _ _ _ (by omega) (by omega)]; rfl
  have e : len - m = k := by omega
  simp [Instr.slice, run_underlying Try.underlying23, Instr.sliceBounds, h2, Result.andThen, sizeOf, typeInfo, hi, hz1, e, offN]
theorem offN_row {w : World} {a : Option Addr} {l : List Nt} (h : RowN w a l) (cap m : Nat) (hlc : l.length ≤ cap) (hm : m ≤ l.length) : RowN w (offN a cap m) (l.drop m) := by
  unfold offN
  split
  · left
    rw [List.drop_eq_nil_iff]; omega
  · rcases h with rfl | ⟨b, o, rfl, hc⟩
    · exact .inl (by simp)
    · have e : (⟨b, o, none⟩ : Addr).add (m * 6) = ⟨b, o + m * 6, none⟩ := by unfold Addr.add; split <;> simp_all
      rw [Option.map_some, e]
      exact RowN.drop (w := w) (b := b) (o := o) (l := l) (.inr ⟨b, o, rfl, hc⟩) m hm
theorem offN_none {a : Option Addr} {cap m : Nat} (h : offN a cap m = none) : a = none := by
  unfold offN at h
  split at h
  · exact h
  · simpa using h
theorem offN_some (b o cap m : Nat) (h : m < cap) : offN (some ⟨b, o, none⟩) cap m = some ⟨b, o + m * 6, none⟩ := by
  unfold offN
  rw [if_neg (by omega), Option.map_some]
  unfold Addr.add
  split <;> simp_all
theorem ixN0 (b o n c : Nat) (hk : 0 < n) : ∀ w, (Instr.indexAt 23 (.slice (some ⟨b, o, none⟩) n c) (.int .i64 0)).run Try.prog w = .ok (.pointer (some ⟨b, o, none⟩)) w := fun w => by
  have := ixS b o n c 0 0 rfl hk w
  rwa [Nat.zero_mul, Nat.add_zero] at this
/-- The box with the node. -/
def Kb6 (g : Nat) (n : Nt) (w : World) : Prop := Nb w g n
theorem Kb6.l {g : Nat} {n : Nt} : ∀ w, Kb6 g n w → (Instr.loadAt 44 (.pointer (some ⟨g, 0, none⟩))).run Try.prog w = .ok (nv n) w := fun w k => k.load
/-- The box and the node at the place. -/
def Pq (g b o : Nat) (n q : Nt) (w : World) : Prop := Nb w g n ∧ Na w b o q
section
variable {g b o : Nat} {n q : Nt}
theorem Pq.keep {w w' : World} (h : Pq g b o n q w) (hb : Below w.heap.size w w') : Pq g b o n q w' := ⟨h.1.keep hb, h.2.keep hb⟩
theorem Pq.nd : ∀ w, Pq g b o n q w → (Instr.loadAt 42 (.pointer (some ⟨g, 0, none⟩))).run Try.prog w = .ok (dv n.1) w := fun w k => k.1.loadD
theorem Pq.qd : ∀ w, Pq g b o n q w → (Instr.loadAt 42 (.pointer (some ⟨b, o, none⟩))).run Try.prog w = .ok (dv q.1) w := fun w k => k.2.loadD
theorem Pq.nn : ∀ w, Pq g b o n q w → (Instr.loadAt 44 (.pointer (some ⟨g, 0, none⟩))).run Try.prog w = .ok (nv n) w := fun w k => k.1.load
theorem Pq.qn : ∀ w, Pq g b o n q w → (Instr.loadAt 44 (.pointer (some ⟨b, o, none⟩))).run Try.prog w = .ok (nv q) w := fun w k => k.2.load
end
theorem lt_of_row {w : World} {b o : Nat} {l : List Nt} (h : RowN w (some ⟨b, o, none⟩) l) (hl : 0 < l.length) : b < w.heap.size := by
  rcases h with rfl | ⟨b2, o2, e, hc⟩
  · simp at hl
  · cases e
    exact lt_of_cell (hc 0 hl 0 (by omega))

theorem on_one (w : World) (base : Nat) (n : Nt) (hb : base ≤ w.heap.size) : ON (w.alloc (.cells (nc n) 44)) base 44 (.slice (some ⟨w.heap.size, 0, none⟩) 1 1) [n] := by
  have hh : (w.alloc (.cells (nc n) 44)).heap[w.heap.size]? = some (.cells (nc n) 44 (0, 0)) := by show (w.heap.push _)[w.heap.size]? = _; simp
  refine on_of (l := [n]) hb hh (Nat.le_refl _) (by decide) rfl (fun i hi j hj => ?_)
  have : i = 0 := by simpa using hi
  subst this
  simp
/-- A node put where it belongs. -/
def putR (l : List Nt) (n : Nt) : List Nt := l.take (posS l n.1) ++ n :: l.drop (posS l n.1)
set_option maxRecDepth 100000 in
set_option maxHeartbeats 8000000 in
theorem put_ref (l : List Nt) (n : Nt) (a : Option Addr) (c : Nat) (w : World) (hx : RowN w a l) (hna : a = none → c = 0) (hlc : l.length ≤ c) (hlx : l.length ≤ 300000) :
    Calls Try.prog 35 #[.slice a l.length c, nv n] w fun e w' => ∃ v, e = .returned v ∧ ON w' w.heap.size 44 v (putR l n) ∧ Below w.heap.size w w' := by
  have HB := Lib.hid (bel_box w (.cells (nc n) 44))
  have HK : Hid (Nb (w.alloc (.cells (nc n) 44)) w.heap.size n) := Nb.new w n
  have HX := Lib.hid (hx.keep HB.out)
  have HNa := Lib.hid hna
  have HLc := Lib.hid hlc
  have HLn := Lib.hid hlx
  have hli : (l.length : Int) ≤ 300000 := by omega
  clear hx hna hlc hlx
  go_enter Try.func35, Try.ntmps35
  go_wp2_with fail
  generalize (w.alloc (.cells (nc n) 44)) = w1 at *
  go_loopw [5] (fun i wr => ∃ k : Nat, Hid (k ≤ posS l n.1) ∧ k ≤ l.length ∧ i = .int .i64 (k : Int) ∧ Hid (Below w1.heap.size w1 wr)) (fun i _ => l.length - (intOf i).toNat)
  case atStart => exact ⟨0, Nat.zero_le _, Nat.zero_le _, rfl, Below.refl _ _⟩
  case round =>
    obtain ⟨k, HKp, hk, rfl, hh⟩ := hrel
    have HK1 := Lib.hid (HK.out.keep hh.out)
    have HB1 := Lib.hid (HB.out.trans (hh.out.mono HB.out.size))
    by_cases hlt : k < l.length
    · have hi0 : (k : Int) < (l.length : Int) := by omega
      have hg : decide ((k : Int) < (l.length : Int)) = true := by simpa using hi0
      obtain ⟨b1, o1, rfl, hna⟩ := na_of (HX.out.keep hh.out) k hlt
      have HGo := Lib.hid (fun h => posS_go hlt HKp.out h)
      have HSt := Lib.hid (fun h => posS_stop hlt HKp.out h)
      obtain ⟨q, hq⟩ : ∃ q, q = l[k] := ⟨_, rfl⟩
      rw [← hq] at hna HGo HSt
      clear hq
      have hd := (Below.refl wr.heap.size wr).drew
      have HPk : Hid (Pq w.heap.size b1 (o1 + k * 6) n q wr.drew) := ⟨HK1.out.keep hd, hna.keep hd⟩
      have HBd := Lib.hid HB1.out.drew
      have hix := ixS b1 o1 l.length c k (k : Int) rfl hlt
      have HLe := Lib.hid (fun w => before_ref q.1 n.1 w)
      have hhd : Hid (Below w1.heap.size w1 wr.drew) := hh.out.drew
      clear hd hna
      go_wp2_with fail
      refine Sch.wp_region_tn (Pq w.heap.size b1 (o1 + k * 6) n q) (.val 0 (.val 1 (.val 2 (.val 3 (.val 4 (.val 5 (.val 6 (.val 7 (.val 8 (.val 9 (.val 10 (.val 11 (.one 12 (.val 13 .done)))))))))))))) (by kernel_rfl) (by kernel_rfl) HPk.out ?_
      repeat (first
        | (refine Sch.tn_q rfl rfl rfl (fun K hK => ?_); go_big_quiet_op; (first | refine hK _ ?_ | refine ⟨_, fun _ _ => rfl, hK _ ?_⟩); clear hK K)
        | (refine Sch.tn_chk _ _ _ rfl rfl rfl rfl rfl ?_; simp only [Act.put, List.setIfInBounds_toArray, List.set_cons_zero, List.set_cons_succ])
        | (refine Sch.tn_load _ _ _ _ _ rfl rfl rfl rfl (by first | exact Pq.nd | exact Pq.qd) rfl ?_; simp only [Act.put, List.setIfInBounds_toArray, List.set_cons_zero, List.set_cons_succ]))
      repeat (first
        | (refine Sch.tn_q rfl rfl rfl (fun K hK => ?_); go_big_quiet_op; (first | refine hK _ ?_ | refine ⟨_, fun _ _ => rfl, hK _ ?_⟩); clear hK K)
        | (refine Sch.tn_chk _ _ _ rfl rfl rfl rfl rfl ?_; simp only [Act.put, List.setIfInBounds_toArray, List.set_cons_zero, List.set_cons_succ])
        | (refine Sch.tn_load _ _ _ _ _ rfl rfl rfl rfl (by first | exact Pq.nd | exact Pq.qd) rfl ?_; simp only [Act.put, List.setIfInBounds_toArray, List.set_cons_zero, List.set_cons_succ])
        | (refine Sch.tn_s _ rfl rfl rfl ?_; simp only [Act.put, List.setIfInBounds_toArray, List.set_cons_zero, List.set_cons_succ])
        | (refine Sch.tn_se _ rfl rfl rfl ?_; simp only [Act.put, List.setIfInBounds_toArray, List.set_cons_zero, List.set_cons_succ]))
      generalize wr.drew = w2 at *
      refine Sch.tn_e rfl rfl (fun K hK => ?_)
      go_wp2_with fail
      refine (HLe.out _).mono ?_
      rintro e w3 ⟨rfl, hl⟩
      have hb := hl.bel
      clear hl
      replace HPk := Lib.hid (HPk.out.keep hb)
      replace HBd := bel_tr HBd hb
      replace hhd := bel_tr hhd hb
      clear hb HLe
      refine hK _ _ HPk.out ?_
      clear hK K
      rcases hls : less q.1 n.1 with _ | _
      · have HE := Lib.hid (HSt.out hls)
        clear hls HGo HSt
        repeat (first
          | (refine Sch.tn_q rfl rfl rfl (fun K hK => ?_); go_big_quiet_op; (first | refine hK _ ?_ | refine ⟨_, fun _ _ => rfl, hK _ ?_⟩); clear hK K)
          | (refine Sch.tn_chk _ _ _ rfl rfl rfl rfl rfl ?_; simp only [Act.put, List.setIfInBounds_toArray, List.set_cons_zero, List.set_cons_succ])
          | (refine Sch.tn_load _ _ _ _ _ rfl rfl rfl rfl (by first | exact Pq.nd | exact Pq.qd) rfl ?_; simp only [Act.put, List.setIfInBounds_toArray, List.set_cons_zero, List.set_cons_succ])
          | (refine Sch.tn_s _ rfl rfl rfl ?_; simp only [Act.put, List.setIfInBounds_toArray, List.set_cons_zero, List.set_cons_succ])
          | (refine Sch.tn_se _ rfl rfl rfl ?_; simp only [Act.put, List.setIfInBounds_toArray, List.set_cons_zero, List.set_cons_succ]))
        refine Sch.tn_n ?_
        have HKt := Lib.hid HPk.out.1
        have HXt := Lib.hid (HX.out.keep hhd.out)
        have HBt := HBd
        have HTk : Hid (k ≤ l.length) := by show _ ≤ _; omega
        clear HPk HBd hhd hix hg hi0 hlt hk HKp HK1 HB1 hh HX HK HB
        generalize w3 = wt at *
        generalize (some ⟨b1, o1, none⟩ : Option Addr) = a at *
        have s2 := cut_hiN a l.length c k (l.length - k) (by have := HTk.out; omega) HLc.out
        have s1 := cut_loN a l.length c k (by have := HTk.out; have := HLc.out; omega)
        have HD : Hid ((l.drop k).length = l.length - k) := List.length_drop
        have HTl : Hid ((l.take k).length = k) := by show _ = _; rw [List.length_take]; have := HTk.out; omega
        have hd := (Below.refl wt.heap.size wt).drew
        have HKd : Hid (Kb6 w.heap.size n wt.drew) := HKt.out.keep hd
        have HRd := Lib.hid (offN_row (HXt.out.keep hd) c k HLc.out HTk.out)
        have HLd := Lib.hid ((HXt.out.keep hd).take k)
        have HBd := bel_tr HBt hd
        have HN2 : Hid (offN a c k = none → c - k = 0) := fun h => by have := HNa.out (offN_none h); omega
        have HI : Hid (putR l n = l.take k ++ [n] ++ l.drop k) := by
          show _ = _
          unfold putR
          rw [← HE.out, List.append_assoc]
          rfl
        have HLP : Hid ((l.take k).length + (l.drop k).length ≤ 300000) := by
          show _ ≤ _
          rw [List.length_take, List.length_drop]
          have := HLn.out
          have := HTk.out
          omega
        clear hd HKt HXt HBt HE HLc HLn
        generalize offN a c k = ad2 at *
        generalize c - k = c2 at *
        generalize l.drop k = R at *
        generalize l.take k = P at *
        generalize hmm : l.length - k = m1 at *
        have hR : m1 = R.length := HD.out.symm
        have HMm := Lib.hid hmm
        clear HD hmm
        subst hR
        obtain ⟨kk, hkk⟩ : ∃ kk, kk = k := ⟨_, rfl⟩
        rw [← hkk] at HTl
        have HKk := Lib.hid hkk
        clear hkk
        go_wp2_with fail
        refine Sch.wp_region_tn (Kb6 w.heap.size n) (.val 0 (.val 2 (.val 3 (.val 4 (.one 1 (.one 5 (.val 6 .done))))))) (by kernel_rfl) (by kernel_rfl) HKd.out ?_
        repeat (first
          | (refine Sch.tn_q rfl rfl rfl (fun K hK => ?_); go_big_quiet_op; (first | refine hK _ ?_ | refine ⟨_, fun _ _ => rfl, hK _ ?_⟩); clear hK K)
          | (refine Sch.tn_chk _ _ _ rfl rfl rfl rfl rfl ?_; simp only [Act.put, List.setIfInBounds_toArray, List.set_cons_zero, List.set_cons_succ])
          | (refine Sch.tn_load _ _ _ _ _ rfl rfl rfl rfl (by first | exact Kb6.l) rfl ?_; simp only [Act.put, List.setIfInBounds_toArray, List.set_cons_zero, List.set_cons_succ]))
        generalize wt.drew = w5 at *
        refine Sch.tn_e rfl rfl (fun K hK => ?_)
        go_wp2_with fail
        have hb := bel_box w5 (.cells (nc n) 44)
        have HO := Lib.hid (on_one w5 w5.heap.size n (Nat.le_refl _))
        have HK6 := Lib.hid (Nb.keep (n := n) HKd.out hb)
        have HR6 := Lib.hid (HRd.out.keep hb)
        have HL6 := Lib.hid (HLd.out.keep hb)
        have HZ := Lib.hid hb
        clear hb
        refine hK _ _ HK6.out ?_
        clear hK K
        generalize (w5.alloc (.cells (nc n) 44)) = w6 at *
        refine Sch.tn_e rfl rfl (fun K hK => ?_)
        refine wp_appN _ _ _ rfl Try.underlying23 infoN _ [n] rfl HO.out ad2 R c2 _ rfl rfl HR6.out HN2.out (by have := HLP.out; simp; omega) HZ.out.size ?_
        intro v2 w7 ho hg _
        have HZ7 := Lib.hid (HZ.out.grown hg HZ.out.size (fun k hk => (HO.out.lt k hk).1))
        have HO7 := Lib.hid ho
        have HK7 : Hid (Kb6 w.heap.size n w7) := Nb.keep (n := n) HKd.out HZ7.out
        have HL7 := Lib.hid (HLd.out.keep HZ7.out)
        clear ho hg HO HK6 HR6 HL6 HZ HRd HLd HKd
        refine hK _ _ HK7.out ?_
        clear hK K
        simp only [Act.put, List.setIfInBounds_toArray, List.set_cons_zero, List.set_cons_succ]
        repeat (first
          | (refine Sch.tn_q rfl rfl rfl (fun K hK => ?_); go_big_quiet_op; (first | refine hK _ ?_ | refine ⟨_, fun _ _ => rfl, hK _ ?_⟩); clear hK K)
          | (refine Sch.tn_chk _ _ _ rfl rfl rfl rfl rfl ?_; simp only [Act.put, List.setIfInBounds_toArray, List.set_cons_zero, List.set_cons_succ]))
        refine Sch.tn_n ?_
        obtain ⟨T7, hT7⟩ : ∃ T7, T7 = [n] ++ R := ⟨_, rfl⟩
        rw [← hT7] at HO7
        obtain ⟨a7, c7, rfl, hr7, hn7, -⟩ := ON.row HO7.out
        have HR7 := Lib.hid hr7
        have HN7 : Hid (a7 = none → c7 = 0) := fun h => (hn7 h).1
        have HLT : Hid (P.length + T7.length ≤ 300001) := by
          have := HLP.out
          have e : T7.length = R.length + 1 := by rw [hT7]; simp
          show _ ≤ _
          omega
        have HT7 := Lib.hid hT7
        have HPk : Hid (k = P.length) := by have := HTl.out; have := HKk.out; show _ = _; omega
        clear hr7 hn7 HO7 hT7 HTl HKk HN2 HK7 HMm HLP
        go_wp2_with (at_builtin; refine wpList_appN rfl _ _ _ rfl Try.underlying23 infoN (.slice none 0 0) [] rfl (ON.nil _ w7.heap.size _) a P c k HPk.out rfl HL7.out HNa.out (by have := HLT.out; simp only [List.length_nil]; omega) (Nat.le_refl _) ?_)
        intro v8 w8 ho hg _
        have HO8 := Lib.hid ho
        have hb := bel_none hg
        have HR8 := Lib.hid (HR7.out.keep hb)
        have HZe : Hid (w7.heap.size ≤ w8.heap.size) := hb.size
        have HZ78 := Lib.hid hb
        clear ho hg hb HR7 HL7 HPk
        go_wp2_with (at_builtin; refine wpList_appN rfl _ _ _ rfl Try.underlying23 infoN v8 P rfl HO8.out a7 T7 c7 T7.length rfl rfl HR8.out HN7.out (by have := HLT.out; omega) HZe.out ?_)
        intro v9 w9 ho hg _
        have HO9 := Lib.hid ho
        have HZ9 := Lib.hid (HZ78.out.grown hg HZ78.out.size (fun k hk => (HO8.out.lt k hk).1))
        clear ho hg HO8 HR8 HZ78 HZe
        go_wp2_with fail
        go_ret
        have hsz : w.heap.size ≤ w7.heap.size := Nat.le_trans HBd.out.size HZ7.out.size
        rw [HI.out, List.append_assoc, ← HT7.out]
        exact ⟨v9, rfl, HO9.out.mono fun k hk => Nat.le_trans hsz (HO9.out.lt k hk).1, HBd.out.trans (HZ7.out.trans (HZ9.out.mono HZ7.out.size) |>.mono HBd.out.size)⟩
      · have HE := Lib.hid (HGo.out hls)
        clear hls HGo HSt
        repeat (first
          | (refine Sch.tn_q rfl rfl rfl (fun K hK => ?_); go_big_quiet_op; (first | refine hK _ ?_ | refine ⟨_, fun _ _ => rfl, hK _ ?_⟩); clear hK K)
          | (refine Sch.tn_chk _ _ _ rfl rfl rfl rfl rfl ?_; simp only [Act.put, List.setIfInBounds_toArray, List.set_cons_zero, List.set_cons_succ])
          | (refine Sch.tn_load _ _ _ _ _ rfl rfl rfl rfl (by first | exact Pq.nd | exact Pq.qd) rfl ?_; simp only [Act.put, List.setIfInBounds_toArray, List.set_cons_zero, List.set_cons_succ])
          | (refine Sch.tn_s _ rfl rfl rfl ?_; simp only [Act.put, List.setIfInBounds_toArray, List.set_cons_zero, List.set_cons_succ])
          | (refine Sch.tn_se _ rfl rfl rfl ?_; simp only [Act.put, List.setIfInBounds_toArray, List.set_cons_zero, List.set_cons_succ]))
        refine Sch.tn_n ?_
        go_wp2_with fail
        go_roundw
        case rel => exact ⟨k + 1, HE.out, by omega, by go_num, hhd⟩
        case measure => simp [intOf]; omega
    · have HE : Hid (k = posS l n.1) := posS_end (by omega) HKp.out
      have hend : ¬ (k : Int) < (l.length : Int) := by omega
      have hg : decide ((k : Int) < (l.length : Int)) = false := by simpa using hend
      have hd := (Below.refl wr.heap.size wr).drew
      have HKt := Lib.hid (HK1.out.keep hd)
      have HXt := Lib.hid ((HX.out.keep hh.out).keep hd)
      have HBt := bel_tr HB1 hd
      have HTk : Hid (k ≤ l.length) := hk
      have HQ0 : Hid (Kb6 w.heap.size n wr.drew) := HKt.out
      clear hd HK1 HB1 hh HX HK HB HKp hk
      go_wp2_with fail
      refine Sch.wp_region_tn (Kb6 w.heap.size n) (.val 0 (.val 1 (.val 2 (.val 3 (.val 4 (.val 5 (.val 6 (.val 7 (.val 8 (.val 9 (.val 10 (.val 11 (.one 12 (.val 13 .done)))))))))))))) (by kernel_rfl) (by kernel_rfl) HQ0.out ?_
      repeat (first
        | (refine Sch.tn_q rfl rfl rfl (fun K hK => ?_); go_big_quiet_op; (first | refine hK _ ?_ | refine ⟨_, fun _ _ => rfl, hK _ ?_⟩); clear hK K)
        | (refine Sch.tn_chk _ _ _ rfl rfl rfl rfl rfl ?_; simp only [Act.put, List.setIfInBounds_toArray, List.set_cons_zero, List.set_cons_succ])
        | (refine Sch.tn_load _ _ _ _ _ rfl rfl rfl rfl (by first | exact Kb6.l) rfl ?_; simp only [Act.put, List.setIfInBounds_toArray, List.set_cons_zero, List.set_cons_succ]))
      repeat (first
        | (refine Sch.tn_q rfl rfl rfl (fun K hK => ?_); go_big_quiet_op; (first | refine hK _ ?_ | refine ⟨_, fun _ _ => rfl, hK _ ?_⟩); clear hK K)
        | (refine Sch.tn_chk _ _ _ rfl rfl rfl rfl rfl ?_; simp only [Act.put, List.setIfInBounds_toArray, List.set_cons_zero, List.set_cons_succ])
        | (refine Sch.tn_load _ _ _ _ _ rfl rfl rfl rfl (by first | exact Kb6.l) rfl ?_; simp only [Act.put, List.setIfInBounds_toArray, List.set_cons_zero, List.set_cons_succ])
        | (refine Sch.tn_s _ rfl rfl rfl ?_; simp only [Act.put, List.setIfInBounds_toArray, List.set_cons_zero, List.set_cons_succ])
        | (refine Sch.tn_se _ rfl rfl rfl ?_; simp only [Act.put, List.setIfInBounds_toArray, List.set_cons_zero, List.set_cons_succ]))
      refine Sch.tn_n ?_
      clear HQ0 hg hlt hend
      generalize wr.drew = wt at *
      have s2 := cut_hiN a l.length c k (l.length - k) (by have := HTk.out; omega) HLc.out
      have s1 := cut_loN a l.length c k (by have := HTk.out; have := HLc.out; omega)
      have HD : Hid ((l.drop k).length = l.length - k) := List.length_drop
      have HTl : Hid ((l.take k).length = k) := by show _ = _; rw [List.length_take]; have := HTk.out; omega
      have hd := (Below.refl wt.heap.size wt).drew
      have HKd : Hid (Kb6 w.heap.size n wt.drew) := HKt.out.keep hd
      have HRd := Lib.hid (offN_row (HXt.out.keep hd) c k HLc.out HTk.out)
      have HLd := Lib.hid ((HXt.out.keep hd).take k)
      have HBd := bel_tr HBt hd
      have HN2 : Hid (offN a c k = none → c - k = 0) := fun h => by have := HNa.out (offN_none h); omega
      have HI : Hid (putR l n = l.take k ++ [n] ++ l.drop k) := by
        show _ = _
        unfold putR
        rw [← HE.out, List.append_assoc]
        rfl
      have HLP : Hid ((l.take k).length + (l.drop k).length ≤ 300000) := by
        show _ ≤ _
        rw [List.length_take, List.length_drop]
        have := HLn.out
        have := HTk.out
        omega
      clear hd HKt HXt HBt HE HLc HLn
      generalize offN a c k = ad2 at *
      generalize c - k = c2 at *
      generalize l.drop k = R at *
      generalize l.take k = P at *
      generalize hmm : l.length - k = m1 at *
      have hR : m1 = R.length := HD.out.symm
      have HMm := Lib.hid hmm
      clear HD hmm
      subst hR
      obtain ⟨kk, hkk⟩ : ∃ kk, kk = k := ⟨_, rfl⟩
      rw [← hkk] at HTl
      have HKk := Lib.hid hkk
      clear hkk
      go_wp2_with fail
      refine Sch.wp_region_tn (Kb6 w.heap.size n) (.val 0 (.val 2 (.val 3 (.val 4 (.one 1 (.one 5 (.val 6 .done))))))) (by kernel_rfl) (by kernel_rfl) HKd.out ?_
      repeat (first
        | (refine Sch.tn_q rfl rfl rfl (fun K hK => ?_); go_big_quiet_op; (first | refine hK _ ?_ | refine ⟨_, fun _ _ => rfl, hK _ ?_⟩); clear hK K)
        | (refine Sch.tn_chk _ _ _ rfl rfl rfl rfl rfl ?_; simp only [Act.put, List.setIfInBounds_toArray, List.set_cons_zero, List.set_cons_succ])
        | (refine Sch.tn_load _ _ _ _ _ rfl rfl rfl rfl (by first | exact Kb6.l) rfl ?_; simp only [Act.put, List.setIfInBounds_toArray, List.set_cons_zero, List.set_cons_succ]))
      generalize wt.drew = w5 at *
      refine Sch.tn_e rfl rfl (fun K hK => ?_)
      go_wp2_with fail
      have hb := bel_box w5 (.cells (nc n) 44)
      have HO := Lib.hid (on_one w5 w5.heap.size n (Nat.le_refl _))
      have HK6 := Lib.hid (Nb.keep (n := n) HKd.out hb)
      have HR6 := Lib.hid (HRd.out.keep hb)
      have HL6 := Lib.hid (HLd.out.keep hb)
      have HZ := Lib.hid hb
      clear hb
      refine hK _ _ HK6.out ?_
      clear hK K
      generalize (w5.alloc (.cells (nc n) 44)) = w6 at *
      refine Sch.tn_e rfl rfl (fun K hK => ?_)
      refine wp_appN _ _ _ rfl Try.underlying23 infoN _ [n] rfl HO.out ad2 R c2 _ rfl rfl HR6.out HN2.out (by have := HLP.out; simp; omega) HZ.out.size ?_
      intro v2 w7 ho hg _
      have HZ7 := Lib.hid (HZ.out.grown hg HZ.out.size (fun k hk => (HO.out.lt k hk).1))
      have HO7 := Lib.hid ho
      have HK7 : Hid (Kb6 w.heap.size n w7) := Nb.keep (n := n) HKd.out HZ7.out
      have HL7 := Lib.hid (HLd.out.keep HZ7.out)
      clear ho hg HO HK6 HR6 HL6 HZ HRd HLd HKd
      refine hK _ _ HK7.out ?_
      clear hK K
      simp only [Act.put, List.setIfInBounds_toArray, List.set_cons_zero, List.set_cons_succ]
      repeat (first
        | (refine Sch.tn_q rfl rfl rfl (fun K hK => ?_); go_big_quiet_op; (first | refine hK _ ?_ | refine ⟨_, fun _ _ => rfl, hK _ ?_⟩); clear hK K)
        | (refine Sch.tn_chk _ _ _ rfl rfl rfl rfl rfl ?_; simp only [Act.put, List.setIfInBounds_toArray, List.set_cons_zero, List.set_cons_succ]))
      refine Sch.tn_n ?_
      obtain ⟨T7, hT7⟩ : ∃ T7, T7 = [n] ++ R := ⟨_, rfl⟩
      rw [← hT7] at HO7
      obtain ⟨a7, c7, rfl, hr7, hn7, -⟩ := ON.row HO7.out
      have HR7 := Lib.hid hr7
      have HN7 : Hid (a7 = none → c7 = 0) := fun h => (hn7 h).1
      have HLT : Hid (P.length + T7.length ≤ 300001) := by
        have := HLP.out
        have e : T7.length = R.length + 1 := by rw [hT7]; simp
        show _ ≤ _
        omega
      have HT7 := Lib.hid hT7
      have HPk : Hid (k = P.length) := by have := HTl.out; have := HKk.out; show _ = _; omega
      clear hr7 hn7 HO7 hT7 HTl HKk HN2 HK7 HMm HLP
      go_wp2_with (at_builtin; refine wpList_appN rfl _ _ _ rfl Try.underlying23 infoN (.slice none 0 0) [] rfl (ON.nil _ w7.heap.size _) a P c k HPk.out rfl HL7.out HNa.out (by have := HLT.out; simp only [List.length_nil]; omega) (Nat.le_refl _) ?_)
      intro v8 w8 ho hg _
      have HO8 := Lib.hid ho
      have hb := bel_none hg
      have HR8 := Lib.hid (HR7.out.keep hb)
      have HZe : Hid (w7.heap.size ≤ w8.heap.size) := hb.size
      have HZ78 := Lib.hid hb
      clear ho hg hb HR7 HL7 HPk
      go_wp2_with (at_builtin; refine wpList_appN rfl _ _ _ rfl Try.underlying23 infoN v8 P rfl HO8.out a7 T7 c7 T7.length rfl rfl HR8.out HN7.out (by have := HLT.out; omega) HZe.out ?_)
      intro v9 w9 ho hg _
      have HO9 := Lib.hid ho
      have HZ9 := Lib.hid (HZ78.out.grown hg HZ78.out.size (fun k hk => (HO8.out.lt k hk).1))
      clear ho hg HO8 HR8 HZ78 HZe
      go_wp2_with fail
      go_ret
      have hsz : w.heap.size ≤ w7.heap.size := Nat.le_trans HBd.out.size HZ7.out.size
      rw [HI.out, List.append_assoc, ← HT7.out]
      exact ⟨v9, rfl, HO9.out.mono fun k hk => Nat.le_trans hsz (HO9.out.lt k hk).1, HBd.out.trans (HZ7.out.trans (HZ9.out.mono HZ7.out.size) |>.mono HBd.out.size)⟩
end Go.Proofs.Ytmdebedkljpagaa.Jn
