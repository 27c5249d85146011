/-
  A gathering takes in one more node.
-/
import Derived.Test.YtkcbekebleodaaaGreatMQPlc
import Derived.Test.YtkcbekebleodaaaGreatMJnC
import Derived.Test.YtkcbekebleodaaaGreatFVals

section
namespace Go.Proofs.YtkcbekebleodaaaGreat.Qs
set_option linter.unusedVariables false
open Go.RowKit V Go.Sort D Nd
attribute [local irreducible] Sch.heldN Sch.stepV Sch.stepE

section
variable {w w' : World} {G b : Nat} {v : Value}
end
section
variable {g G b : Nat} {n : Nt} {v : Value}
end
theorem wp_appN {P : Program} {w : World} {x : Oper} {a : Act} {K : Act → World → Prop} {Q : Exit → Act → World → Prop} (s y : Operand) (T : TypeId)
    (ho : x.op = .call { callee := .builtin .append, args := #[s, y], argTypes := #[T, T] })
    {base : Nat} {E : TypeId} (hT : P.underlying T = some (.slice E)) (hinfo : (P.info? E).map (fun i => (i.zero, i.size, i.bytes)) = some (some zeroNv, 6, 48))
    (v : Value) (l : List Nt) (hs : a.eval s = v) (h : ON w base E v l) (ad : Option Addr) (m : List Nt) (c n : Nat) (hn : n = m.length) (hx : a.eval y = .slice ad n c) (hrow : RowN w ad m) (hnil : ad = none → c = 0)
    (hlen : l.length + m.length ≤ 1000000000000) (hbase : base ≤ w.heap.size)
    (hk : ∀ v' w', ON w' base E v' (l ++ m) → w.grownBy w' v.ownBlock → G.Grew w v v' → K (a.put x.dst v') w') : x.wp P a w K Q := by
  subst hn
  obtain ⟨v', w', hr, h2, h3, h4⟩ := run_appN hT hinfo h x.type ad m c hrow hnil hlen hbase
  unfold Oper.wp execOp
  simp only [ho, resolve, invoke, builtin, Sem.run_bind, Sem.run_pure, Result.andThen_ok, List.map_toArray, List.map_cons, List.map_nil, hs, hx, hr]
  exact hk _ _ h2 h3 h4

theorem nb_gb {w w' : World} {g r : Nat} {n : Nt} (h : Nb w g n) (hg : w.grownBy w' (some r)) (hne : g ≠ r) : Nb w' g n := by
  have e : w'.heap[g]? = w.heap[g]? := hg.block g h.lt (by simpa using hne)
  obtain ⟨h0, h1, h2, h3, h4, h5⟩ := h
  exact ⟨(World.cell?_of_block (a := ⟨g, 0, none⟩) e).trans h0, (World.cell?_of_block (a := ⟨g, 1, none⟩) e).trans h1, (World.cell?_of_block (a := ⟨g, 2, none⟩) e).trans h2, (World.cell?_of_block (a := ⟨g, 3, none⟩) e).trans h3, (World.cell?_of_block (a := ⟨g, 4, none⟩) e).trans h4, (World.cell?_of_block (a := ⟨g, 5, none⟩) e).trans h5⟩
section
variable {w w' : World} {base G b N : Nat} {v : Value} {ns : List Nt}
end
section
variable {g G b h o : Nat} {n r : Nt} {v : Value}
end
theorem gb_putN (w : World) (g : Nat) (n : Nt) : w.grownBy (Nd.putN w g n) (some g) :=
  gb_trans (gb_trans (gb_trans (gb_trans (gb_trans (gb_setCell _ _ _ _) (gb_setCell _ _ _ _)) (gb_setCell _ _ _ _)) (gb_setCell _ _ _ _)) (gb_setCell _ _ _ _)) (gb_setCell _ _ _ _)
theorem put_nb {w : World} {g : Nat} (h : Zb w g) (n : Nt) : Nb (Nd.putN w g n) g n := by
  obtain ⟨⟨h0, h1, h2, h3, h4, h5⟩, -⟩ := h
  unfold Nd.putN
  refine ⟨?_, ?_, ?_, ?_, ?_, ?_⟩ <;> go_simp
section
variable {G b q : Nat} {m : Nt} {v : Value}
end
section
variable {w w' w2 : World}
end
end Go.Proofs.YtkcbekebleodaaaGreat.Qs
end

/-
  Layer 14's reference: a state with one more node.
-/
section
namespace Go.Proofs.YtkcbekebleodaaaGreat.Jn
set_option linter.unusedVariables false
open Go.RowKit V Go.Sort D Nd Qs
attribute [local irreducible] Sch.heldN Sch.stepV Sch.stepE

/-! ### Parts of rows of nodes -/
theorem cut_loN (a : Option Addr) (len cap n : Nat) (hn : n ≤ cap) : ∀ wx : World,
    (Instr.slice 23 (.slice a len cap) none (some (.int .i64 (n : Int))) none).run Tryz.prog wx = .ok (.slice a n cap) wx := by
  obtain ⟨i, hi, hz0, hz1, hz2⟩ := G.info_of infoN
  intro wx
  have h1 : (Instr.sliceBound (.int .i64 (n : Int)) cap .sliceAcap).run Tryz.prog wx = .ok n wx := by
    rw [run_sliceBound _ _ _ _ _ (by omega) (by omega)]; rfl
  have h0 : (⟨0, 0, none⟩ : Addr).add 0 = ⟨0, 0, none⟩ := rfl
  by_cases hc : cap = 0
  · rw [hc] at h1
    simp [Instr.slice, run_underlying Tryz.underlying23, Instr.sliceBounds, h1, Result.andThen, sizeOf, typeInfo, hi, hc]
  · have : a.map (fun x => x.add 0) = a := by
      rcases a with _ | ⟨b, o, s⟩
      · rfl
      · simp [Addr.add]
    simp [Instr.slice, run_underlying Tryz.underlying23, Instr.sliceBounds, h1, Result.andThen, sizeOf, typeInfo, hi, hc, this]
def offN (a : Option Addr) (cap m : Nat) : Option Addr := if cap = m then a else a.map (·.add (m * 6))
theorem cut_hiN (a : Option Addr) (len cap m k : Nat) (hk : len = m + k) (hlc : len ≤ cap) : ∀ wx : World,
    (Instr.slice 23 (.slice a len cap) (some (.int .i64 (m : Int))) none none).run Tryz.prog wx = .ok (.slice (offN a cap m) k (cap - m)) wx := by
  obtain ⟨i, hi, hz0, hz1, hz2⟩ := G.info_of infoN
  intro wx
  have h2 : (Instr.sliceBound (.int .i64 (m : Int)) len .sliceB).run Tryz.prog wx = .ok m wx := by
    rw [run_sliceBound _ _ _ _ _ (by omega) (by omega)]; rfl
  have e : len - m = k := by omega
  simp [Instr.slice, run_underlying Tryz.underlying23, Instr.sliceBounds, h2, Result.andThen, sizeOf, typeInfo, hi, hz1, e, offN]
theorem offN_row {w : World} {a : Option Addr} {l : List Nt} (h : RowN w a l) (cap m : Nat) (hlc : l.length ≤ cap) (hm : m ≤ l.length) : RowN w (offN a cap m) (l.drop m) := by
  unfold offN
  split
  · left
    rw [List.drop_eq_nil_iff]; omega
  · rcases h with rfl | ⟨b, o, rfl, hc⟩
    · exact .inl (by simp)
    · have e : (⟨b, o, none⟩ : Addr).add (m * 6) = ⟨b, o + m * 6, none⟩ := by unfold Addr.add; split <;> simp_all
      rw [Option.map_some, e]
      exact RowN.drop (w := w) (b := b) (o := o) (l := l) (.inr ⟨b, o, rfl, hc⟩) m hm
theorem offN_none {a : Option Addr} {cap m : Nat} (h : offN a cap m = none) : a = none := by
  unfold offN at h
  split at h
  · exact h
  · simpa using h
theorem ixN0 (b o n c : Nat) (hk : 0 < n) : ∀ w, (Instr.indexAt 23 (.slice (some ⟨b, o, none⟩) n c) (.int .i64 0)).run Tryz.prog w = .ok (.pointer (some ⟨b, o, none⟩)) w := fun w => by
  have := ixS b o n c 0 0 rfl hk w
  rwa [Nat.zero_mul, Nat.add_zero] at this
/-- The box with the node. -/
def Kb6 (g : Nat) (n : Nt) (w : World) : Prop := Nb w g n
theorem Kb6.l {g : Nat} {n : Nt} : ∀ w, Kb6 g n w → (Instr.loadAt 53 (.pointer (some ⟨g, 0, none⟩))).run Tryz.prog w = .ok (nv n) w := fun w k => k.load
/-- The box and the node at the place. -/
def Pq (g b o : Nat) (n q : Nt) (w : World) : Prop := Nb w g n ∧ Na w b o q
section
variable {g b o : Nat} {n q : Nt}
theorem Pq.keep {w w' : World} (h : Pq g b o n q w) (hb : Below w.heap.size w w') : Pq g b o n q w' := ⟨h.1.keep hb, h.2.keep hb⟩
theorem Pq.nd : ∀ w, Pq g b o n q w → (Instr.loadAt 25 (.pointer (some ⟨g, 0, none⟩))).run Tryz.prog w = .ok (dv n.1) w := fun w k => k.1.loadD
theorem Pq.qd : ∀ w, Pq g b o n q w → (Instr.loadAt 25 (.pointer (some ⟨b, o, none⟩))).run Tryz.prog w = .ok (dv q.1) w := fun w k => k.2.loadD
end
theorem lt_of_row {w : World} {b o : Nat} {l : List Nt} (h : RowN w (some ⟨b, o, none⟩) l) (hl : 0 < l.length) : b < w.heap.size := by
  rcases h with rfl | ⟨b2, o2, e, hc⟩
  · simp at hl
  · cases e
    exact lt_of_cell (hc 0 hl 0 (by omega))

theorem on_one (w : World) (base : Nat) (n : Nt) (hb : base ≤ w.heap.size) : ON (w.alloc (.cells (nc n) 53)) base 53 (.slice (some ⟨w.heap.size, 0, none⟩) 1 1) [n] := by
  have hh : (w.alloc (.cells (nc n) 53)).heap[w.heap.size]? = some (.cells (nc n) 53 (0, 0)) := by show (w.heap.push _)[w.heap.size]? = _; simp
  refine on_of (l := [n]) hb hh (Nat.le_refl _) (by decide) rfl (fun i hi j hj => ?_)
  have : i = 0 := by simpa using hi
  subst this
  simp
/-- A node put where it belongs. -/
def putR (l : List Nt) (n : Nt) : List Nt := l.take (posS l n.1) ++ n :: l.drop (posS l n.1)
set_option maxRecDepth 100000 in
set_option maxHeartbeats 8000000 in
theorem put_ref (l : List Nt) (n : Nt) (a : Option Addr) (c : Nat) (w : World) (hx : RowN w a l) (hna : a = none → c = 0) (hlc : l.length ≤ c) (hlx : l.length ≤ 300000) :
    Calls Tryz.prog 58 #[.slice a l.length c, nv n] w fun e w' => ∃ v, e = .returned v ∧ ON w' w.heap.size 53 v (putR l n) ∧ Below w.heap.size w w' := by
  have HB := Lib.hid (bel_box w (.cells (nc n) 53))
  have HK : Hid (Nb (w.alloc (.cells (nc n) 53)) w.heap.size n) := Nb.new w n
  have HX := Lib.hid (hx.keep HB.out)
  have HNa := Lib.hid hna
  have HLc := Lib.hid hlc
  have HLn := Lib.hid hlx
  have hli : (l.length : Int) ≤ 300000 := by omega
  clear hx hna hlc hlx
  go_enter Tryz.func58, Tryz.ntmps58
  go_wp2_with fail
  generalize (w.alloc (.cells (nc n) 53)) = w1 at *
  go_loopw [5] (fun i wr => ∃ k : Nat, Hid (k ≤ posS l n.1) ∧ k ≤ l.length ∧ i = .int .i64 (k : Int) ∧ Hid (Below w1.heap.size w1 wr)) (fun i _ => l.length - (intOf i).toNat)
  case atStart => exact ⟨0, Nat.zero_le _, Nat.zero_le _, rfl, Below.refl _ _⟩
  case round =>
    obtain ⟨k, HKp, hk, rfl, hh⟩ := hrel
    have HK1 := Lib.hid (HK.out.keep hh.out)
    have HB1 := Lib.hid (HB.out.trans (hh.out.mono HB.out.size))
    by_cases hlt : k < l.length
    · have hi0 : (k : Int) < (l.length : Int) := by omega
      have hg : decide ((k : Int) < (l.length : Int)) = true := by simpa using hi0
      obtain ⟨b1, o1, rfl, hna⟩ := na_of (HX.out.keep hh.out) k hlt
      have HGo := Lib.hid (fun h => posS_go hlt HKp.out h)
      have HSt := Lib.hid (fun h => posS_stop hlt HKp.out h)
      obtain ⟨q, hq⟩ : ∃ q, q = l[k] := ⟨_, rfl⟩
      rw [← hq] at hna HGo HSt
      clear hq
      have hd := (Below.refl wr.heap.size wr).drew
      have HPk : Hid (Pq w.heap.size b1 (o1 + k * 6) n q wr.drew) := ⟨HK1.out.keep hd, hna.keep hd⟩
      have HBd := Lib.hid HB1.out.drew
      have hix := ixS b1 o1 l.length c k (k : Int) rfl hlt
      have HLe := Lib.hid (fun w => before_ref q.1 n.1 w)
      have hhd : Hid (Below w1.heap.size w1 wr.drew) := hh.out.drew
      clear hd hna
      go_wp2_with fail
      refine Sch.wp_region_tn (Pq w.heap.size b1 (o1 + k * 6) n q) (.val 0 (.val 1 (.val 2 (.val 3 (.val 4 (.val 5 (.val 6 (.val 7 (.val 8 (.val 9 (.val 10 (.val 11 (.one 12 (.val 13 .done)))))))))))))) (by kernel_rfl) (by kernel_rfl) HPk.out ?_
      repeat (first
        | (refine Sch.tn_q rfl rfl rfl (fun K hK => ?_); go_big_quiet_op; (first | refine hK _ ?_ | refine ⟨_, fun _ _ => rfl, hK _ ?_⟩); clear hK K)
        | (refine Sch.tn_chk _ _ _ rfl rfl rfl rfl rfl ?_; simp only [Act.put, List.setIfInBounds_toArray, List.set_cons_zero, List.set_cons_succ])
        | (refine Sch.tn_load _ _ _ _ _ rfl rfl rfl rfl (by first | exact Pq.nd | exact Pq.qd) rfl ?_; simp only [Act.put, List.setIfInBounds_toArray, List.set_cons_zero, List.set_cons_succ]))
      repeat (first
        | (refine Sch.tn_q rfl rfl rfl (fun K hK => ?_); go_big_quiet_op; (first | refine hK _ ?_ | refine ⟨_, fun _ _ => rfl, hK _ ?_⟩); clear hK K)
        | (refine Sch.tn_chk _ _ _ rfl rfl rfl rfl rfl ?_; simp only [Act.put, List.setIfInBounds_toArray, List.set_cons_zero, List.set_cons_succ])
        | (refine Sch.tn_load _ _ _ _ _ rfl rfl rfl rfl (by first | exact Pq.nd | exact Pq.qd) rfl ?_; simp only [Act.put, List.setIfInBounds_toArray, List.set_cons_zero, List.set_cons_succ])
        | (refine Sch.tn_s _ rfl rfl rfl ?_; simp only [Act.put, List.setIfInBounds_toArray, List.set_cons_zero, List.set_cons_succ])
        | (refine Sch.tn_se _ rfl rfl rfl ?_; simp only [Act.put, List.setIfInBounds_toArray, List.set_cons_zero, List.set_cons_succ]))
      generalize wr.drew = w2 at *
      refine Sch.tn_e rfl rfl (fun K hK => ?_)
      go_wp2_with fail
      refine (HLe.out _).mono ?_
      rintro e w3 ⟨rfl, hl⟩
      have hb := hl.bel
      clear hl
      replace HPk := Lib.hid (HPk.out.keep hb)
      replace HBd := bel_tr HBd hb
      replace hhd := bel_tr hhd hb
      clear hb HLe
      refine hK _ _ HPk.out ?_
      clear hK K
      rcases hls : less q.1 n.1 with _ | _
      · have HE := Lib.hid (HSt.out hls)
        clear hls HGo HSt
        repeat (first
          | (refine Sch.tn_q rfl rfl rfl (fun K hK => ?_); go_big_quiet_op; (first | refine hK _ ?_ | refine ⟨_, fun _ _ => rfl, hK _ ?_⟩); clear hK K)
          | (refine Sch.tn_chk _ _ _ rfl rfl rfl rfl rfl ?_; simp only [Act.put, List.setIfInBounds_toArray, List.set_cons_zero, List.set_cons_succ])
          | (refine Sch.tn_load _ _ _ _ _ rfl rfl rfl rfl (by first | exact Pq.nd | exact Pq.qd) rfl ?_; simp only [Act.put, List.setIfInBounds_toArray, List.set_cons_zero, List.set_cons_succ])
          | (refine Sch.tn_s _ rfl rfl rfl ?_; simp only [Act.put, List.setIfInBounds_toArray, List.set_cons_zero, List.set_cons_succ])
          | (refine Sch.tn_se _ rfl rfl rfl ?_; simp only [Act.put, List.setIfInBounds_toArray, List.set_cons_zero, List.set_cons_succ]))
        refine Sch.tn_n ?_
        have HKt := Lib.hid HPk.out.1
        have HXt := Lib.hid (HX.out.keep hhd.out)
        have HBt := HBd
        have HTk : Hid (k ≤ l.length) := by show _ ≤ _; omega
        clear HPk HBd hhd hix hg hi0 hlt hk HKp HK1 HB1 hh HX HK HB
        generalize w3 = wt at *
        generalize (some ⟨b1, o1, none⟩ : Option Addr) = a at *
        have s2 := cut_hiN a l.length c k (l.length - k) (by have := HTk.out; omega) HLc.out
        have s1 := cut_loN a l.length c k (by have := HTk.out; have := HLc.out; omega)
        have HD : Hid ((l.drop k).length = l.length - k) := List.length_drop
        have HTl : Hid ((l.take k).length = k) := by show _ = _; rw [List.length_take]; have := HTk.out; omega
        have hd := (Below.refl wt.heap.size wt).drew
        have HKd : Hid (Kb6 w.heap.size n wt.drew) := HKt.out.keep hd
        have HRd := Lib.hid (offN_row (HXt.out.keep hd) c k HLc.out HTk.out)
        have HLd := Lib.hid ((HXt.out.keep hd).take k)
        have HBd := bel_tr HBt hd
        have HN2 : Hid (offN a c k = none → c - k = 0) := fun h => by have := HNa.out (offN_none h); omega
        have HI : Hid (putR l n = l.take k ++ [n] ++ l.drop k) := by
          show _ = _
          unfold putR
          rw [← HE.out, List.append_assoc]
          rfl
        have HLP : Hid ((l.take k).length + (l.drop k).length ≤ 300000) := by
          show _ ≤ _
          rw [List.length_take, List.length_drop]
          have := HLn.out
          have := HTk.out
          omega
        clear hd HKt HXt HBt HE HLc HLn
        generalize offN a c k = ad2 at *
        generalize c - k = c2 at *
        generalize l.drop k = R at *
        generalize l.take k = P at *
        generalize hmm : l.length - k = m1 at *
        have hR : m1 = R.length := HD.out.symm
        have HMm := Lib.hid hmm
        clear HD hmm
        subst hR
        obtain ⟨kk, hkk⟩ : ∃ kk, kk = k := ⟨_, rfl⟩
        rw [← hkk] at HTl
        have HKk := Lib.hid hkk
        clear hkk
        go_wp2_with fail
        refine Sch.wp_region_tn (Kb6 w.heap.size n) (.val 0 (.val 2 (.val 3 (.val 4 (.one 1 (.one 5 (.val 6 .done))))))) (by kernel_rfl) (by kernel_rfl) HKd.out ?_
        repeat (first
          | (refine Sch.tn_q rfl rfl rfl (fun K hK => ?_); go_big_quiet_op; (first | refine hK _ ?_ | refine ⟨_, fun _ _ => rfl, hK _ ?_⟩); clear hK K)
          | (refine Sch.tn_chk _ _ _ rfl rfl rfl rfl rfl ?_; simp only [Act.put, List.setIfInBounds_toArray, List.set_cons_zero, List.set_cons_succ])
          | (refine Sch.tn_load _ _ _ _ _ rfl rfl rfl rfl (by first | exact Kb6.l) rfl ?_; simp only [Act.put, List.setIfInBounds_toArray, List.set_cons_zero, List.set_cons_succ]))
        generalize wt.drew = w5 at *
        refine Sch.tn_e rfl rfl (fun K hK => ?_)
        go_wp2_with fail
        have hb := bel_box w5 (.cells (nc n) 53)
        have HO := Lib.hid (on_one w5 w5.heap.size n (Nat.le_refl _))
        have HK6 := Lib.hid (Nb.keep (n := n) HKd.out hb)
        have HR6 := Lib.hid (HRd.out.keep hb)
        have HL6 := Lib.hid (HLd.out.keep hb)
        have HZ := Lib.hid hb
        clear hb
        refine hK _ _ HK6.out ?_
        clear hK K
        generalize (w5.alloc (.cells (nc n) 53)) = w6 at *
        refine Sch.tn_e rfl rfl (fun K hK => ?_)
        refine wp_appN _ _ _ rfl Tryz.underlying23 infoN _ [n] rfl HO.out ad2 R c2 _ rfl rfl HR6.out HN2.out (by have := HLP.out; simp; omega) HZ.out.size ?_
        intro v2 w7 ho hg _
        have HZ7 := Lib.hid (HZ.out.grown hg HZ.out.size (fun k hk => (HO.out.lt k hk).1))
        have HO7 := Lib.hid ho
        have HK7 : Hid (Kb6 w.heap.size n w7) := Nb.keep (n := n) HKd.out HZ7.out
        have HL7 := Lib.hid (HLd.out.keep HZ7.out)
        clear ho hg HO HK6 HR6 HL6 HZ HRd HLd HKd
        refine hK _ _ HK7.out ?_
        clear hK K
        simp only [Act.put, List.setIfInBounds_toArray, List.set_cons_zero, List.set_cons_succ]
        repeat (first
          | (refine Sch.tn_q rfl rfl rfl (fun K hK => ?_); go_big_quiet_op; (first | refine hK _ ?_ | refine ⟨_, fun _ _ => rfl, hK _ ?_⟩); clear hK K)
          | (refine Sch.tn_chk _ _ _ rfl rfl rfl rfl rfl ?_; simp only [Act.put, List.setIfInBounds_toArray, List.set_cons_zero, List.set_cons_succ]))
        refine Sch.tn_n ?_
        obtain ⟨T7, hT7⟩ : ∃ T7, T7 = [n] ++ R := ⟨_, rfl⟩
        rw [← hT7] at HO7
        obtain ⟨a7, c7, rfl, hr7, hn7, -⟩ := ON.row HO7.out
        have HR7 := Lib.hid hr7
        have HN7 : Hid (a7 = none → c7 = 0) := fun h => (hn7 h).1
        have HLT : Hid (P.length + T7.length ≤ 300001) := by
          have := HLP.out
          have e : T7.length = R.length + 1 := by rw [hT7]; simp
          show _ ≤ _
          omega
        have HT7 := Lib.hid hT7
        have HPk : Hid (k = P.length) := by have := HTl.out; have := HKk.out; show _ = _; omega
        clear hr7 hn7 HO7 hT7 HTl HKk HN2 HK7 HMm HLP
        go_wp2_with (at_builtin; refine wpList_appN rfl _ _ _ rfl Tryz.underlying23 infoN (.slice none 0 0) [] rfl (ON.nil _ w7.heap.size _) a P c k HPk.out rfl HL7.out HNa.out (by have := HLT.out; simp only [List.length_nil]; omega) (Nat.le_refl _) ?_)
        intro v8 w8 ho hg _
        have HO8 := Lib.hid ho
        have hb := bel_none hg
        have HR8 := Lib.hid (HR7.out.keep hb)
        have HZe : Hid (w7.heap.size ≤ w8.heap.size) := hb.size
        have HZ78 := Lib.hid hb
        clear ho hg hb HR7 HL7 HPk
        go_wp2_with (at_builtin; refine wpList_appN rfl _ _ _ rfl Tryz.underlying23 infoN v8 P rfl HO8.out a7 T7 c7 T7.length rfl rfl HR8.out HN7.out (by have := HLT.out; omega) HZe.out ?_)
        intro v9 w9 ho hg _
        have HO9 := Lib.hid ho
        have HZ9 := Lib.hid (HZ78.out.grown hg HZ78.out.size (fun k hk => (HO8.out.lt k hk).1))
        clear ho hg HO8 HR8 HZ78 HZe
        go_wp2_with fail
        go_ret
        have hsz : w.heap.size ≤ w7.heap.size := Nat.le_trans HBd.out.size HZ7.out.size
        rw [HI.out, List.append_assoc, ← HT7.out]
        exact ⟨v9, rfl, HO9.out.mono fun k hk => Nat.le_trans hsz (HO9.out.lt k hk).1, HBd.out.trans (HZ7.out.trans (HZ9.out.mono HZ7.out.size) |>.mono HBd.out.size)⟩
      · have HE := Lib.hid (HGo.out hls)
        clear hls HGo HSt
        repeat (first
          | (refine Sch.tn_q rfl rfl rfl (fun K hK => ?_); go_big_quiet_op; (first | refine hK _ ?_ | refine ⟨_, fun _ _ => rfl, hK _ ?_⟩); clear hK K)
          | (refine Sch.tn_chk _ _ _ rfl rfl rfl rfl rfl ?_; simp only [Act.put, List.setIfInBounds_toArray, List.set_cons_zero, List.set_cons_succ])
          | (refine Sch.tn_load _ _ _ _ _ rfl rfl rfl rfl (by first | exact Pq.nd | exact Pq.qd) rfl ?_; simp only [Act.put, List.setIfInBounds_toArray, List.set_cons_zero, List.set_cons_succ])
          | (refine Sch.tn_s _ rfl rfl rfl ?_; simp only [Act.put, List.setIfInBounds_toArray, List.set_cons_zero, List.set_cons_succ])
          | (refine Sch.tn_se _ rfl rfl rfl ?_; simp only [Act.put, List.setIfInBounds_toArray, List.set_cons_zero, List.set_cons_succ]))
        refine Sch.tn_n ?_
        go_wp2_with fail
        go_roundw
        case rel => exact ⟨k + 1, HE.out, by omega, by go_num, hhd⟩
        case measure => simp [intOf]; omega
    · have HE : Hid (k = posS l n.1) := posS_end (by omega) HKp.out
      have hend : ¬ (k : Int) < (l.length : Int) := by omega
      have hg : decide ((k : Int) < (l.length : Int)) = false := by simpa using hend
      have hd := (Below.refl wr.heap.size wr).drew
      have HKt := Lib.hid (HK1.out.keep hd)
      have HXt := Lib.hid ((HX.out.keep hh.out).keep hd)
      have HBt := bel_tr HB1 hd
      have HTk : Hid (k ≤ l.length) := hk
      have HQ0 : Hid (Kb6 w.heap.size n wr.drew) := HKt.out
      clear hd HK1 HB1 hh HX HK HB HKp hk
      go_wp2_with fail
      refine Sch.wp_region_tn (Kb6 w.heap.size n) (.val 0 (.val 1 (.val 2 (.val 3 (.val 4 (.val 5 (.val 6 (.val 7 (.val 8 (.val 9 (.val 10 (.val 11 (.one 12 (.val 13 .done)))))))))))))) (by kernel_rfl) (by kernel_rfl) HQ0.out ?_
      repeat (first
        | (refine Sch.tn_q rfl rfl rfl (fun K hK => ?_); go_big_quiet_op; (first | refine hK _ ?_ | refine ⟨_, fun _ _ => rfl, hK _ ?_⟩); clear hK K)
        | (refine Sch.tn_chk _ _ _ rfl rfl rfl rfl rfl ?_; simp only [Act.put, List.setIfInBounds_toArray, List.set_cons_zero, List.set_cons_succ])
        | (refine Sch.tn_load _ _ _ _ _ rfl rfl rfl rfl (by first | exact Kb6.l) rfl ?_; simp only [Act.put, List.setIfInBounds_toArray, List.set_cons_zero, List.set_cons_succ]))
      repeat (first
        | (refine Sch.tn_q rfl rfl rfl (fun K hK => ?_); go_big_quiet_op; (first | refine hK _ ?_ | refine ⟨_, fun _ _ => rfl, hK _ ?_⟩); clear hK K)
        | (refine Sch.tn_chk _ _ _ rfl rfl rfl rfl rfl ?_; simp only [Act.put, List.setIfInBounds_toArray, List.set_cons_zero, List.set_cons_succ])
        | (refine Sch.tn_load _ _ _ _ _ rfl rfl rfl rfl (by first | exact Kb6.l) rfl ?_; simp only [Act.put, List.setIfInBounds_toArray, List.set_cons_zero, List.set_cons_succ])
        | (refine Sch.tn_s _ rfl rfl rfl ?_; simp only [Act.put, List.setIfInBounds_toArray, List.set_cons_zero, List.set_cons_succ])
        | (refine Sch.tn_se _ rfl rfl rfl ?_; simp only [Act.put, List.setIfInBounds_toArray, List.set_cons_zero, List.set_cons_succ]))
      refine Sch.tn_n ?_
      clear HQ0 hg hlt hend
      generalize wr.drew = wt at *
      have s2 := cut_hiN a l.length c k (l.length - k) (by have := HTk.out; omega) HLc.out
      have s1 := cut_loN a l.length c k (by have := HTk.out; have := HLc.out; omega)
      have HD : Hid ((l.drop k).length = l.length - k) := List.length_drop
      have HTl : Hid ((l.take k).length = k) := by show _ = _; rw [List.length_take]; have := HTk.out; omega
      have hd := (Below.refl wt.heap.size wt).drew
      have HKd : Hid (Kb6 w.heap.size n wt.drew) := HKt.out.keep hd
      have HRd := Lib.hid (offN_row (HXt.out.keep hd) c k HLc.out HTk.out)
      have HLd := Lib.hid ((HXt.out.keep hd).take k)
      have HBd := bel_tr HBt hd
      have HN2 : Hid (offN a c k = none → c - k = 0) := fun h => by have := HNa.out (offN_none h); omega
      have HI : Hid (putR l n = l.take k ++ [n] ++ l.drop k) := by
        show _ = _
        unfold putR
        rw [← HE.out, List.append_assoc]
        rfl
      have HLP : Hid ((l.take k).length + (l.drop k).length ≤ 300000) := by
        show _ ≤ _
        rw [List.length_take, List.length_drop]
        have := HLn.out
        have := HTk.out
        omega
      clear hd HKt HXt HBt HE HLc HLn
      generalize offN a c k = ad2 at *
      generalize c - k = c2 at *
      generalize l.drop k = R at *
      generalize l.take k = P at *
      generalize hmm : l.length - k = m1 at *
      have hR : m1 = R.length := HD.out.symm
      have HMm := Lib.hid hmm
      clear HD hmm
      subst hR
      obtain ⟨kk, hkk⟩ : ∃ kk, kk = k := ⟨_, rfl⟩
      rw [← hkk] at HTl
      have HKk := Lib.hid hkk
      clear hkk
      go_wp2_with fail
      refine Sch.wp_region_tn (Kb6 w.heap.size n) (.val 0 (.val 2 (.val 3 (.val 4 (.one 1 (.one 5 (.val 6 .done))))))) (by kernel_rfl) (by kernel_rfl) HKd.out ?_
      repeat (first
        | (refine Sch.tn_q rfl rfl rfl (fun K hK => ?_); go_big_quiet_op; (first | refine hK _ ?_ | refine ⟨_, fun _ _ => rfl, hK _ ?_⟩); clear hK K)
        | (refine Sch.tn_chk _ _ _ rfl rfl rfl rfl rfl ?_; simp only [Act.put, List.setIfInBounds_toArray, List.set_cons_zero, List.set_cons_succ])
        | (refine Sch.tn_load _ _ _ _ _ rfl rfl rfl rfl (by first | exact Kb6.l) rfl ?_; simp only [Act.put, List.setIfInBounds_toArray, List.set_cons_zero, List.set_cons_succ]))
      generalize wt.drew = w5 at *
      refine Sch.tn_e rfl rfl (fun K hK => ?_)
      go_wp2_with fail
      have hb := bel_box w5 (.cells (nc n) 53)
      have HO := Lib.hid (on_one w5 w5.heap.size n (Nat.le_refl _))
      have HK6 := Lib.hid (Nb.keep (n := n) HKd.out hb)
      have HR6 := Lib.hid (HRd.out.keep hb)
      have HL6 := Lib.hid (HLd.out.keep hb)
      have HZ := Lib.hid hb
      clear hb
      refine hK _ _ HK6.out ?_
      clear hK K
      generalize (w5.alloc (.cells (nc n) 53)) = w6 at *
      refine Sch.tn_e rfl rfl (fun K hK => ?_)
      refine wp_appN _ _ _ rfl Tryz.underlying23 infoN _ [n] rfl HO.out ad2 R c2 _ rfl rfl HR6.out HN2.out (by have := HLP.out; simp; omega) HZ.out.size ?_
      intro v2 w7 ho hg _
      have HZ7 := Lib.hid (HZ.out.grown hg HZ.out.size (fun k hk => (HO.out.lt k hk).1))
      have HO7 := Lib.hid ho
      have HK7 : Hid (Kb6 w.heap.size n w7) := Nb.keep (n := n) HKd.out HZ7.out
      have HL7 := Lib.hid (HLd.out.keep HZ7.out)
      clear ho hg HO HK6 HR6 HL6 HZ HRd HLd HKd
      refine hK _ _ HK7.out ?_
      clear hK K
      simp only [Act.put, List.setIfInBounds_toArray, List.set_cons_zero, List.set_cons_succ]
      repeat (first
        | (refine Sch.tn_q rfl rfl rfl (fun K hK => ?_); go_big_quiet_op; (first | refine hK _ ?_ | refine ⟨_, fun _ _ => rfl, hK _ ?_⟩); clear hK K)
        | (refine Sch.tn_chk _ _ _ rfl rfl rfl rfl rfl ?_; simp only [Act.put, List.setIfInBounds_toArray, List.set_cons_zero, List.set_cons_succ]))
      refine Sch.tn_n ?_
      obtain ⟨T7, hT7⟩ : ∃ T7, T7 = [n] ++ R := ⟨_, rfl⟩
      rw [← hT7] at HO7
      obtain ⟨a7, c7, rfl, hr7, hn7, -⟩ := ON.row HO7.out
      have HR7 := Lib.hid hr7
      have HN7 : Hid (a7 = none → c7 = 0) := fun h => (hn7 h).1
      have HLT : Hid (P.length + T7.length ≤ 300001) := by
        have := HLP.out
        have e : T7.length = R.length + 1 := by rw [hT7]; simp
        show _ ≤ _
        omega
      have HT7 := Lib.hid hT7
      have HPk : Hid (k = P.length) := by have := HTl.out; have := HKk.out; show _ = _; omega
      clear hr7 hn7 HO7 hT7 HTl HKk HN2 HK7 HMm HLP
      go_wp2_with (at_builtin; refine wpList_appN rfl _ _ _ rfl Tryz.underlying23 infoN (.slice none 0 0) [] rfl (ON.nil _ w7.heap.size _) a P c k HPk.out rfl HL7.out HNa.out (by have := HLT.out; simp only [List.length_nil]; omega) (Nat.le_refl _) ?_)
      intro v8 w8 ho hg _
      have HO8 := Lib.hid ho
      have hb := bel_none hg
      have HR8 := Lib.hid (HR7.out.keep hb)
      have HZe : Hid (w7.heap.size ≤ w8.heap.size) := hb.size
      have HZ78 := Lib.hid hb
      clear ho hg hb HR7 HL7 HPk
      go_wp2_with (at_builtin; refine wpList_appN rfl _ _ _ rfl Tryz.underlying23 infoN v8 P rfl HO8.out a7 T7 c7 T7.length rfl rfl HR8.out HN7.out (by have := HLT.out; omega) HZe.out ?_)
      intro v9 w9 ho hg _
      have HO9 := Lib.hid ho
      have HZ9 := Lib.hid (HZ78.out.grown hg HZ78.out.size (fun k hk => (HO8.out.lt k hk).1))
      clear ho hg HO8 HR8 HZ78 HZe
      go_wp2_with fail
      go_ret
      have hsz : w.heap.size ≤ w7.heap.size := Nat.le_trans HBd.out.size HZ7.out.size
      rw [HI.out, List.append_assoc, ← HT7.out]
      exact ⟨v9, rfl, HO9.out.mono fun k hk => Nat.le_trans hsz (HO9.out.lt k hk).1, HBd.out.trans (HZ7.out.trans (HZ9.out.mono HZ7.out.size) |>.mono HBd.out.size)⟩
end Go.Proofs.YtkcbekebleodaaaGreat.Jn
end

/-
  Layer 14's reference: the join.
-/
section
namespace Go.Proofs.YtkcbekebleodaaaGreat.Jn
set_option linter.unusedVariables false
open Go.RowKit V Go.Sort D Nd Qs
attribute [local irreducible] Sch.heldN Sch.stepV Sch.stepE

theorem step_none {l : List Nt} {n : Nt} (h : atS l n.1 = none) : stepR l n = putR l n := by
  unfold stepR
  rw [hit_at, h]
  rfl
theorem step_some {l : List Nt} {n : Nt} {k : Nat} (hk : k < l.length) (hi : idxS l n.1 = (k : Int)) (h : atS l n.1 = some l[k]) : stepR l n = l.set k (mrgR l[k] n) := by
  have e : hitS l n.1 = k := by
    unfold idxS at hi
    rw [h] at hi
    simp only [Option.isSome_some, if_true] at hi
    exact Int.ofNat_inj.1 hi
  unfold stepR
  rw [hit_at, h, e]
theorem putR_len (l : List Nt) (n : Nt) : (putR l n).length = l.length + 1 := by
  unfold putR
  rw [List.length_append, List.length_cons, List.length_take, List.length_drop]
  have := posS_le l n.1
  omega
theorem step_len (l : List Nt) (n : Nt) : (stepR l n).length ≤ l.length + 1 := by
  unfold stepR
  split
  · rw [List.length_set]; omega
  · exact Nat.le_of_eq (putR_len l n)
theorem joinR_len (b : List Nt) : ∀ a : List Nt, (joinR a b).length ≤ a.length + b.length := by
  induction b with
  | nil => exact fun a => Nat.le_refl _
  | cons n t ih =>
    intro a
    have h1 := ih (stepR a n)
    have h2 := step_len a n
    show (joinR (stepR a n) t).length ≤ a.length + (t.length + 1)
    omega
theorem joinR_take {a b : List Nt} {k : Nat} (hk : k < b.length) : joinR a (b.take (k + 1)) = stepR (joinR a (b.take k)) b[k] := by
  unfold joinR
  rw [foldl_take _ _ _ _ hk]
theorem ON.some {w : World} {base : Nat} {E : TypeId} {a : Option Addr} {n c : Nat} {l : List Nt} (h : ON w base E (.slice a n c) l) {b o : Nat} (e : a = some ⟨b, o, none⟩) : o = 0 ∧ base ≤ b := by
  obtain ⟨a', c', e', -, -, -, hx⟩ := Qs.ON.row h
  simp only [Value.slice.injEq] at e'
  obtain ⟨rfl, -, -⟩ := e'
  have := hx _ e
  simp only [Addr.mk.injEq, and_true, true_and] at this
  exact ⟨this.1, this.2.2.1⟩
/-- A node of a row. -/
def Kq (b o : Nat) (n : Nt) (w : World) : Prop := Na w b o n
theorem Kq.keep {b o : Nat} {n : Nt} {w w' : World} (h : Kq b o n w) (hb : Below w.heap.size w w') : Kq b o n w' := Na.keep h hb
theorem Kq.l {b o : Nat} {n : Nt} : ∀ w, Kq b o n w → (Instr.loadAt 53 (.pointer (some ⟨b, o, none⟩))).run Tryz.prog w = .ok (nv n) w := fun w k => Na.load k
set_option maxRecDepth 100000 in
set_option maxHeartbeats 8000000 in
theorem join_ref (xs ys : List Nt) (a b : Option Addr) (c d : Nat) (w : World) (hx : RowN w a xs) (hna : a = none → c = 0) (hy : RowN w b ys) (hlx : xs.length ≤ 100000) (hly : ys.length ≤ 100000) :
    Calls Tryz.prog 28 #[.slice a xs.length c, .slice b ys.length d] w fun e w' => ∃ v, e = .returned v ∧ ON w' w.heap.size 53 v (joinR xs ys) ∧ Below w.heap.size w w' := by
  have HX := Lib.hid hx
  have HY := Lib.hid hy
  have HNa := Lib.hid hna
  have HLx := Lib.hid hlx
  have HLy := Lib.hid hly
  have hli : (ys.length : Int) ≤ 100000 := by omega
  clear hx hy hlx hly hna
  go_enter Tryz.func28, Tryz.ntmps28
  go_wp2_with (at_builtin; refine wpList_appN rfl _ _ _ rfl Tryz.underlying23 infoN (.slice none 0 0) [] rfl (ON.nil _ w.heap.size _) a xs c xs.length rfl rfl HX.out HNa.out (by have := HLx.out; simp only [List.length_nil]; omega) (Nat.le_refl _) ?_)
  intro v5 w5 ho hg _
  have HO5 : Hid (ON w5 w.heap.size 53 v5 (joinR xs (ys.take 0))) := ho
  have HB5 := Lib.hid (bel_none hg)
  clear ho hg HX HNa
  go_wp2_with fail
  go_loopw [5, 6, 7] (fun v i _ wr => ∃ k : Nat, k ≤ ys.length ∧ i = .int .i64 (k : Int) ∧ Hid (Below w.heap.size w wr) ∧ Hid (ON wr w.heap.size 53 v (joinR xs (ys.take k)))) (fun _ i _ _ => ys.length - (intOf i).toNat)
  case atStart => exact ⟨0, Nat.zero_le _, rfl, HB5, HO5⟩
  case round =>
    clear HB5 HO5
    obtain ⟨k, hk, rfl, hh, HO⟩ := hrel
    by_cases hlt : k < ys.length
    · have hi0 : (k : Int) < (ys.length : Int) := by omega
      obtain ⟨b1, o1, rfl, hna⟩ := na_of (HY.out.keep hh.out) k hlt
      have HBl : Hid (b1 < w.heap.size) := lt_of_row HY.out (by omega)
      have hix := ixS b1 o1 ys.length d k (k : Int) rfl hlt
      have HSt : Hid (joinR xs (ys.take (k + 1)) = stepR (joinR xs (ys.take k)) ys[k]) := joinR_take hlt
      have HLl : Hid ((joinR xs (ys.take k)).length ≤ 200000) := by
        have h1 := joinR_len (ys.take k) xs
        rw [List.length_take] at h1
        have := HLx.out
        have := HLy.out
        show _ ≤ _
        omega
      obtain ⟨q, hq⟩ : ∃ q, q = ys[k] := ⟨_, rfl⟩
      rw [← hq] at hna HSt
      clear hq
      generalize joinR xs (ys.take k) = L at *
      obtain ⟨aL, cL, rfl, hrL, hnL, hcL, -⟩ := ON.row HO.out
      have HRl := Lib.hid hrL
      have HNl : Hid (aL = none → cL = 0) := fun h => (hnL h).1
      have HCl := Lib.hid hcL
      clear hrL hnL hcL
      have HN := Lib.hid hna
      have HF := Lib.hid (fun w h => find_ref L q.1 aL cL w h (by have := HLl.out; omega))
      have HIx := Lib.hid (idx_eq (l := L) (d := q.1))
      have HPn := Lib.hid (fun h => HSt.out.trans (step_none (l := L) (n := q) h))
      have HPs := Lib.hid (fun k2 hk2 hi h => HSt.out.trans (step_some (l := L) (n := q) (k := k2) hk2 hi h))
      obtain ⟨n0, n1, -⟩ := hna
      generalize hR : idxS L q.1 = r at *
      clear hR
      go_wp2_with fail
      refine (HF.out _ HRl.out).mono ?_
      rintro e w2 ⟨rfl, hb⟩
      have hh2 := bel_tr hh hb
      have HN2 := Lib.hid (HN.out.keep hb)
      have HO2 := Lib.hid (HO.out.below hb)
      have HR2 := Lib.hid (HRl.out.keep hb)
      clear hb HF n0 n1 HN hh HO HRl
      rcases HIx.out with ⟨rfl, hat⟩ | ⟨k2, hk2, rfl, hat⟩
      · have HE := Lib.hid (HPn.out hat)
        have HP := Lib.hid (fun w h => put_ref L q aL cL w h HNl.out HCl.out (by have := HLl.out; omega))
        have HSz : Hid (w.heap.size ≤ w2.heap.size) := hh2.out.size
        clear hat HPn HPs HIx HO2
        obtain ⟨n0, n1, n2, n3, n4, n5⟩ := HN2.out
        go_wp2_with fail
        refine (HP.out _ HR2.out).mono ?_
        rintro e w3 ⟨v3, rfl, ho, hb⟩
        rw [← HE.out] at ho
        have HO3 : Hid (ON w3 w.heap.size 53 v3 (joinR xs (ys.take (k + 1)))) := ho.mono fun x hx => Nat.le_trans HSz.out (ho.lt x hx).1
        have hh3 := bel_tr hh2 hb
        clear ho hb
        go_wp2_with fail
        go_roundw
        case rel => exact ⟨k + 1, by omega, by go_num, hh3, HO3⟩
        case measure => simp [intOf]; omega
      · have HE := Lib.hid (HPs.out k2 hk2 rfl hat)
        have h0 : (0 : Int) ≤ (k2 : Int) := by omega
        obtain ⟨g, og, hag, -⟩ := na_of HR2.out k2 hk2
        obtain ⟨hog, hbg⟩ := Jn.ON.some HO2.out hag
        subst hog
        subst hag
        have HGb := Lib.hid hbg
        have HGs : Hid (g < w2.heap.size) := (HO2.out.lt g rfl).2
        have HMk := Lib.hid (HO2.out.na k2 hk2)
        have hix2 := ixS g 0 L.length cL k2 (k2 : Int) rfl hk2
        simp only [Nat.zero_add] at hix2
        obtain ⟨p, hp⟩ : ∃ p, p = L[k2] := ⟨_, rfl⟩
        rw [← hp] at HE HMk
        clear hp hat HIx HPn HPs
        have HM := Lib.hid (fun w => merge_ref p q w)
        generalize mrgR p q = M at *
        generalize agreeN p q = ag at *
        have HK : Hid (Kq b1 (o1 + k * 6) q w2.drew) := HN2.out.keep (Below.refl _ _).drew
        have HMd := Lib.hid (HMk.out.keep (Below.refl _ _).drew)
        have HB0 : Hid (Below w.heap.size w w2.drew) := hh2.out.drew
        have HO0 : Hid (ON w2.drew w.heap.size 53 (.slice (some ⟨g, 0, none⟩) L.length cL) L) := HO2.out.below (Below.refl _ _).drew
        have HK2 := Lib.hid hk2
        clear HMk HN2 HO2 HR2 hbg
        go_wp2_with fail
        refine Sch.wp_region_tn (Kq b1 (o1 + k * 6) q) (.val 0 (.val 1 (.val 2 (.val 3 (.val 4 (.val 6 (.val 7 (.val 8 (.val 9 (.one 5 (.one 10 (.val 11 (.val 12 (.val 13 (.val 14 (.one 15 .done)))))))))))))))) (by kernel_rfl) (by kernel_rfl) HK.out ?_
        repeat (first
          | (refine Sch.tn_q rfl rfl rfl (fun K hK => ?_); go_big_quiet_op; (first | refine hK _ ?_ | refine ⟨_, fun _ _ => rfl, hK _ ?_⟩); clear hK K)
          | (refine Sch.tn_chk _ _ _ rfl rfl rfl rfl rfl ?_; simp only [Act.put, List.setIfInBounds_toArray, List.set_cons_zero, List.set_cons_succ])
          | (refine Sch.tn_load _ _ _ _ _ rfl rfl rfl rfl (by first | exact Kq.l) rfl ?_; simp only [Act.put, List.setIfInBounds_toArray, List.set_cons_zero, List.set_cons_succ]))
        generalize w2.drew = w3 at *
        obtain ⟨m0, m1, m2, m3, m4, m5⟩ := HMd.out
        refine Sch.tn_e rfl rfl (fun K hK => ?_)
        go_wp2_with fail
        refine hK _ _ HK.out ?_
        clear hK K
        clear m0 m1 m2 m3 m4 m5
        repeat (first
          | (refine Sch.tn_q rfl rfl rfl (fun K hK => ?_); go_big_quiet_op; (first | refine hK _ ?_ | refine ⟨_, fun _ _ => rfl, hK _ ?_⟩); clear hK K)
          | (refine Sch.tn_chk _ _ _ rfl rfl rfl rfl rfl ?_; simp only [Act.put, List.setIfInBounds_toArray, List.set_cons_zero, List.set_cons_succ])
          | (refine Sch.tn_load _ _ _ _ _ rfl rfl rfl rfl (by first | exact Kq.l) rfl ?_; simp only [Act.put, List.setIfInBounds_toArray, List.set_cons_zero, List.set_cons_succ]))
        refine Sch.tn_e rfl rfl (fun K hK => ?_)
        go_wp2_with fail
        refine (HM.out _).mono ?_
        rintro e w4 ⟨rfl, hb⟩
        have HB4 := bel_tr HB0 hb
        have HK4 := Lib.hid (HK.out.keep hb)
        have HO4 := Lib.hid (HO0.out.below hb)
        have HM4 := Lib.hid (HMd.out.keep hb)
        clear hb HB0 HK HO0 HMd
        refine hK _ _ HK4.out ?_
        clear hK K
        repeat (first
          | (refine Sch.tn_q rfl rfl rfl (fun K hK => ?_); go_big_quiet_op; (first | refine hK _ ?_ | refine ⟨_, fun _ _ => rfl, hK _ ?_⟩); clear hK K)
          | (refine Sch.tn_chk _ _ _ rfl rfl rfl rfl rfl ?_; simp only [Act.put, List.setIfInBounds_toArray, List.set_cons_zero, List.set_cons_succ])
          | (refine Sch.tn_load _ _ _ _ _ rfl rfl rfl rfl (by first | exact Kq.l) rfl ?_; simp only [Act.put, List.setIfInBounds_toArray, List.set_cons_zero, List.set_cons_succ]))
        have HO9 := Lib.hid (HO4.out.put HK2.out M)
        rw [← HE.out] at HO9
        have HB9 := Lib.hid (putAt_below HB4.out HGb.out (k2 * 6) M)
        have HK9 : Hid (Kq b1 (o1 + k * 6) q (putAt w4 g (k2 * 6) M)) := na_gb HK4.out (putAt_gb _ _ _ _) (by have := HBl.out; have := HGb.out; omega)
        obtain ⟨m0, m1, m2, m3, m4, m5⟩ := HM4.out
        have f0 := HO4.out.free (k2 * 6)
        have f1 := HO4.out.free (k2 * 6 + 1)
        have f2 := HO4.out.free (k2 * 6 + 2)
        have f3 := HO4.out.free (k2 * 6 + 3)
        have f4 := HO4.out.free (k2 * 6 + 4)
        have f5 := HO4.out.free (k2 * 6 + 5)
        refine Sch.tn_e rfl rfl (fun K hK => ?_)
        go_wp2_with fail
        refine hK _ (putAt w4 g (k2 * 6) M) HK9.out ?_
        clear hK K m0 m1 m2 m3 m4 m5 f0 f1 f2 f3 f4 f5
        refine Sch.tn_n ?_
        go_wp2_with fail
        go_roundw
        case rel => exact ⟨k + 1, by omega, by go_num, HB9, HO9⟩
        case measure => simp [intOf]; omega
    · obtain rfl : k = ys.length := by omega
      have hend : ¬ (ys.length : Int) < (ys.length : Int) := by omega
      rw [List.take_length] at HO
      go_wp2_with fail
      go_ret
      exact ⟨_, rfl, HO.out, hh.out⟩
end Go.Proofs.YtkcbekebleodaaaGreat.Jn
end

/-
  Layer 14's reference: a spoilt copy.
-/
section
namespace Go.Proofs.YtkcbekebleodaaaGreat.Jn
set_option linter.unusedVariables false
open Go.RowKit V Go.Sort D Nd Qs
attribute [local irreducible] Sch.heldN Sch.stepV Sch.stepE

theorem on_putRune {w : World} {base g c m : Nat} {l : List Nt} (h : ON w base Qs.E (.slice (some ⟨g, 0, none⟩) m c) l) {k : Nat} (hk : k < l.length) (z : Int) : ON (w.setCell ⟨g, k * 6 + 5, none⟩ (.int .i32 z)) base Qs.E (.slice (some ⟨g, 0, none⟩) m c) (l.set k (l[k].1, l[k].2.1, l[k].2.2.1, z)) := by
  rcases h.cur with ⟨e, -⟩ | ⟨g', cap, cur, e, hb, hg, hn, hc, hs, hr⟩
  · cases e
  · simp only [Value.slice.injEq, Option.some.injEq, Addr.mk.injEq, and_true] at e
    obtain ⟨rfl, rfl, rfl⟩ := e
    have := on_of (l := l.set k (l[k].1, l[k].2.1, l[k].2.2.1, z)) hb (heap_set hg (k * 6 + 5) (.int .i32 z)) (by simpa using hn) hc (by simpa using hs) (fun i hi j hj => ?_)
    · rw [List.length_set] at this; exact this
    · rw [List.length_set] at hi
      simp only [Array.getElem?_setIfInBounds]
      rw [List.getElem_set]
      by_cases e : k = i
      · subst e
        rw [if_pos rfl]
        by_cases e4 : j = 5
        · subst e4
          simp; omega
        · rw [if_neg (by omega), hr k hi j hj]
          match j, hj, e4 with
          | 0, _, _ => rfl
          | 1, _, _ => rfl
          | 2, _, _ => rfl
          | 3, _, _ => rfl
          | 4, _, _ => rfl
          | 5, _, h => exact absurd rfl h
      · rw [if_neg e, if_neg (by omega)]
        exact hr i hi j hj

set_option maxRecDepth 100000 in
set_option maxHeartbeats 4000000 in
theorem stain_ref (l : List Nt) (v : Value) (base : Nat) (w : World) (ho : ON w base 53 v l) (hlx : l.length ≤ 1000000) :
    Calls Tryz.prog 15 #[v] w fun e w' => e = .returned (.tuple #[]) ∧ Below base w w' := by
  obtain ⟨a, c, rfl, -, -, -, hax⟩ := ON.row ho
  have HX6 : Hid (∀ x, a = some x → x = ⟨x.block, 0, none⟩ ∧ base ≤ x.block) := fun x h => ⟨(hax x h).1, (hax x h).2.2.1⟩
  have HO := Lib.hid ho
  have hli : (l.length : Int) ≤ 1000000 := by omega
  clear ho hlx hax
  go_enter Tryz.func15, Tryz.ntmps15
  go_wp2_with fail
  go_loopw [2] (fun i wr => ∃ (k : Nat) (M : List Nt), k ≤ l.length ∧ i = .int .i64 (k : Int) ∧ M.length = l.length ∧ Hid (Below base w wr) ∧ Hid (ON wr base 53 (.slice a l.length c) M)) (fun i _ => l.length - (intOf i).toNat)
  case atStart => exact ⟨0, l, Nat.zero_le _, rfl, rfl, Below.refl _ _, HO⟩
  case round =>
    clear HO
    obtain ⟨k, M, hk, rfl, hM, HZ, HO⟩ := hrel
    by_cases hlt : k < l.length
    · have hi0 : (k : Int) < (l.length : Int) := by omega
      have hkM : k < M.length := by omega
      obtain ⟨g, rfl⟩ : ∃ g, a = some ⟨g, 0, none⟩ := by
        rcases a with _ | x
        · rcases (ON.r HO.out).1 with h | ⟨b, o, h, -⟩
          · rw [h] at hkM; exact absurd hkM (Nat.not_lt_zero _)
          · cases h
        · obtain ⟨e, -⟩ := HX6.out x rfl
          exact ⟨x.block, by rw [← e]⟩
      have hgb : base ≤ g := (HX6.out _ rfl).2
      have HGb := Lib.hid hgb
      have hix := ixS g 0 l.length c k (k : Int) rfl hlt
      simp only [Nat.zero_add] at hix
      have HM := Lib.hid hM
      have hn := HO.out.na k hkM
      obtain ⟨t, ht⟩ : ∃ t, t = M[k].2.2.1 := ⟨_, rfl⟩
      obtain ⟨r, hr⟩ : ∃ r, r = M[k].2.2.2 := ⟨_, rfl⟩
      have hcl := hn.2.2.2.2.1
      have hcr := hn.2.2.2.2.2
      rw [← ht] at hcl
      rw [← hr] at hcr
      have hO1 := HO.out.putTime hkM (wrap64 (t + 1))
      have hkM1 : k < (M.set k (M[k].1, M[k].2.1, wrap64 (t + 1), M[k].2.2.2)).length := by rw [List.length_set]; exact hkM
      have hO2 := on_putRune hO1 hkM1 88
      have hfr := HO.out.free (k * 6 + 4)
      have hfr2 := HO.out.free (k * 6 + 5)
      have HO2 := Lib.hid hO2
      have HB2 := Lib.hid ((HZ.out.setCell (p := ⟨g, k * 6 + 4, none⟩) HGb.out (.int .i64 (wrap64 (t + 1)))).setCell (p := ⟨g, k * 6 + 5, none⟩) HGb.out (.int .i32 88))
      have HL2 : Hid (((M.set k (M[k].1, M[k].2.1, wrap64 (t + 1), M[k].2.2.2)).set k (((M.set k (M[k].1, M[k].2.1, wrap64 (t + 1), M[k].2.2.2))[k]).1, ((M.set k (M[k].1, M[k].2.1, wrap64 (t + 1), M[k].2.2.2))[k]).2.1, ((M.set k (M[k].1, M[k].2.1, wrap64 (t + 1), M[k].2.2.2))[k]).2.2.1, 88)).length = l.length) := by
        show _ = _
        rw [List.length_set, List.length_set]
        exact HM.out
      clear hgb hn ht hr hO1 hO2 hM HZ HO
      generalize ((M.set k (M[k].1, M[k].2.1, wrap64 (t + 1), M[k].2.2.2)).set k (((M.set k (M[k].1, M[k].2.1, wrap64 (t + 1), M[k].2.2.2))[k]).1, ((M.set k (M[k].1, M[k].2.1, wrap64 (t + 1), M[k].2.2.2))[k]).2.1, ((M.set k (M[k].1, M[k].2.1, wrap64 (t + 1), M[k].2.2.2))[k]).2.2.1, 88)) = M2 at *
      go_wp2_with fail
      refine ⟨⟨k + 1, M2, by omega, by go_num, HL2.out, HB2, HO2⟩, ?_⟩
      simp [intOf]; omega
    · obtain rfl : k = l.length := by omega
      have hend : ¬ (l.length : Int) < (l.length : Int) := by omega
      go_wp2_with fail
      go_end0
      exact ⟨rfl, HZ.out⟩
end Go.Proofs.YtkcbekebleodaaaGreat.Jn
end

/-
  Package join: Valid, Equal, Copy.
-/
section
namespace Go.Proofs.YtkcbekebleodaaaGreat.Jn
set_option linter.unusedVariables false
open Go.RowKit V Go.Sort D Nd Qs
attribute [local irreducible] Sch.heldN Sch.stepV Sch.stepE

set_option maxRecDepth 100000 in
theorem jvalid_any (l : List Nt) (a : Option Addr) (c : Nat) (w : World) (hx : RowN w a l) (hlx : l.length ≤ 1000000) :
    Calls Tryz.prog 77 #[.slice a l.length c] w fun e w' => e = .returned (.bool (validS l)) ∧ Below w.heap.size w w' := by
  have H := Lib.hid (validS_any l a c w hx hlx)
  clear hx hlx
  go_enter Tryz.func77, Tryz.ntmps77
  go_wp2_with fail
  refine H.out.mono ?_
  rintro e w2 ⟨rfl, hb⟩
  have HB := Lib.hid hb
  clear hb H
  go_wp2_with fail
  go_ret
  exact ⟨rfl, HB.out⟩
end Go.Proofs.YtkcbekebleodaaaGreat.Jn
end

/-
  Package join: Join.
-/
section
namespace Go.Proofs.YtkcbekebleodaaaGreat.Jn
set_option linter.unusedVariables false
open Go.RowKit V Go.Sort D Nd Qs
attribute [local irreducible] Sch.heldN Sch.stepV Sch.stepE

/-- The join of two states, and its error. -/
def joinP (a b : List Nt) : List Nt × Int := if (validS a && validS b) = true then (if agS a b = true then (joinL a b, 0) else ([], 15)) else ([], 2)
theorem run_mkS (w : World) (c : Nat) (hc : c ≤ 1000000) :
    ∃ w', (Instr.makeSlice 23 (.int .i64 0) (.int .i64 (c : Int))).run Tryz.prog w = .ok (.slice (some ⟨w.heap.size, 0, none⟩) 0 c) w' ∧ ON w' w.heap.size 53 (.slice (some ⟨w.heap.size, 0, none⟩) 0 c) [] ∧ Below w.heap.size w w' := by
  obtain ⟨i, hi, hz0, hz1, hz2⟩ := G.info_of infoN
  obtain ⟨w', hr, ho, hg⟩ := run_make_own (P := Tryz.prog) w w.heap.size 23 53 i _ 6 Tryz.underlying23 hi hz0 hz1 .i64 .i64 c (by rw [hz2]; omega) (by unfold maxLen; omega) (Nat.le_refl _)
  exact ⟨w', hr, ho, (Below.refl _ _).grown hg (Nat.le_refl _) (fun k hk => by cases hk)⟩
/-- How long a slice is. -/
def lenV : Value → Nat
  | .slice _ n _ => n
  | _ => 0
/-- A slice with a list of nodes. -/
structure Sl (w : World) (a : Option Addr) (n c : Nat) (l : List Nt) : Prop where
  n : n = l.length
  r : RowN w a l
  z : a = none → c = 0
  c : l.length ≤ c
theorem Sl.keep {w w' : World} {a : Option Addr} {n c : Nat} {l : List Nt} (h : Sl w a n c l) (hb : Below w.heap.size w w') : Sl w' a n c l := ⟨h.n, h.r.keep hb, h.z, h.c⟩
theorem Sl.tail {w : World} {a : Option Addr} {n c : Nat} {x : Nt} {l : List Nt} (h : Sl w a n c (x :: l)) : Sl w (offN a c 1) (n - 1) (c - 1) l := by
  have h1 := offN_row h.r c 1 h.c (by simp)
  refine ⟨?_, ?_, fun e => ?_, ?_⟩
  · have := h.n; simp at this; omega
  · simpa using h1
  · have := h.z (offN_none e); omega
  · have := h.c; simp at this; omega
theorem Sl.head {w : World} {a : Option Addr} {n c : Nat} {x : Nt} {l : List Nt} (h : Sl w a n c (x :: l)) : ∃ b o, a = some ⟨b, o, none⟩ ∧ Na w b o x := by
  obtain ⟨b, o, e, hn⟩ := na_of h.r 0 (by simp)
  rw [Nat.zero_mul, Nat.add_zero] at hn
  exact ⟨b, o, e, hn⟩
/-- What remains to be zipped. -/
structure Zi (xs ys Z A B : List Nt) : Prop where
  j : Z ++ zipJ A B = zipJ xs ys
  g : zagB A B = zagB xs ys
  a : ∀ x ∈ A, validN x = true
  b : ∀ x ∈ B, validN x = true
  l : Z.length + (A.length + B.length) ≤ 400000
theorem Zi.end1 {xs ys Z A B : List Nt} (h : Zi xs ys Z A B) (e : A = [] ∨ B = []) : Z ++ A ++ B = zipJ xs ys ∧ zagB xs ys = true := by
  rw [← h.j, ← h.g]
  rcases e with rfl | rfl
  · rw [zipJ, zagB]; simp
  · rw [zip_nil, zag_nil]; simp
theorem Zi.left {xs ys Z A B : List Nt} {x y : Nt} (h : Zi xs ys Z (x :: A) (y :: B)) (e : less x.1 y.1 = true) : Zi xs ys (Z ++ [x]) A (y :: B) := by
  have h1 : zipJ (x :: A) (y :: B) = x :: zipJ A (y :: B) := by rw [zipJ, if_neg (less_ne e), if_pos e]
  have h2 : zagB (x :: A) (y :: B) = zagB A (y :: B) := by rw [zagB, if_neg (less_ne e), if_pos e]
  refine ⟨?_, by rw [← h2]; exact h.g, fun z hz => h.a z (by simp [hz]), h.b, ?_⟩
  · rw [← h.j, h1]; simp
  · have := h.l; simp at this ⊢; omega
theorem not_both {a b : Dt} (e : less b a = true) : ¬ less a b = true := fun h => by
  have := less_trans h e
  rw [less_irr] at this
  cases this
theorem Zi.right {xs ys Z A B : List Nt} {x y : Nt} (h : Zi xs ys Z (x :: A) (y :: B)) (e : less y.1 x.1 = true) : Zi xs ys (Z ++ [y]) (x :: A) B := by
  have h1 : zipJ (x :: A) (y :: B) = y :: zipJ (x :: A) B := by rw [zipJ, if_neg (less_ne e).symm, if_neg (not_both e)]
  have h2 : zagB (x :: A) (y :: B) = zagB (x :: A) B := by rw [zagB, if_neg (less_ne e).symm, if_neg (not_both e)]
  refine ⟨?_, by rw [← h2]; exact h.g, h.a, fun z hz => h.b z (by simp [hz]), ?_⟩
  · rw [← h.j, h1]; simp
  · have := h.l; simp at this ⊢; omega
theorem Zi.both {xs ys Z A B : List Nt} {x y : Nt} (h : Zi xs ys Z (x :: A) (y :: B)) (e : x.1 = y.1) : (agreeN x y = false → (mergeN x y).2 = 15 ∧ zagB xs ys = false) ∧ (agreeN x y = true → (mergeN x y).2 = 0 ∧ Zi xs ys (Z ++ [(mergeN x y).1]) A B) := by
  have hv : (validN x && validN y) = true := by rw [h.a x (by simp), h.b y (by simp)]; rfl
  have h2 : zagB (x :: A) (y :: B) = (agreeN x y && zagB A B) := by rw [zagB, if_pos e]
  constructor
  · intro hg
    refine ⟨?_, by rw [← h.g, h2, hg]; rfl⟩
    rw [merge_def, if_pos hv, if_neg (by rw [hg]; simp)]
  · intro hg
    have hm : mergeN x y = (if deadN y = true then y else x, 0) := by rw [merge_def, if_pos hv, if_pos hg]
    have h1 : zipJ (x :: A) (y :: B) = (mergeN x y).1 :: zipJ A B := by
      rw [zipJ, if_pos e, hm]
      simp only [deadN, decide_eq_true_eq]
    refine ⟨by rw [hm], ?_, ?_, fun z hz => h.a z (by simp [hz]), fun z hz => h.b z (by simp [hz]), ?_⟩
    · rw [← h.j, h1]; simp
    · rw [← h.g, h2, hg]; rfl
    · have := h.l; simp at this ⊢; omega
section
variable {b1 o1 b2 o2 : Nat} {n m : Nt}
theorem Vab.ld : ∀ w, Vab b1 o1 b2 o2 n m w → (Instr.loadAt 25 (.pointer (some ⟨b1, o1, none⟩))).run Tryz.prog w = .ok (dv n.1) w := fun w k => k.1.loadD
theorem Vab.lmd : ∀ w, Vab b1 o1 b2 o2 n m w → (Instr.loadAt 25 (.pointer (some ⟨b2, o2, none⟩))).run Tryz.prog w = .ok (dv m.1) w := fun w k => k.2.loadD
end
theorem nb_own {w w' : World} {v : Value} {g : Nat} {n : Nt} (h : Nb w g n) (hg : w.grownBy w' v.ownBlock) (hne : ∀ k, v.ownBlock = some k → k ≠ g) : Nb w' g n := by
  have e : w'.heap[g]? = w.heap[g]? := hg.block g h.lt (fun e => hne g e.symm rfl)
  obtain ⟨h0, h1, h2, h3, h4, h5⟩ := h
  exact ⟨(World.cell?_of_block (a := ⟨g, 0, none⟩) e).trans h0, (World.cell?_of_block (a := ⟨g, 1, none⟩) e).trans h1, (World.cell?_of_block (a := ⟨g, 2, none⟩) e).trans h2, (World.cell?_of_block (a := ⟨g, 3, none⟩) e).trans h3, (World.cell?_of_block (a := ⟨g, 4, none⟩) e).trans h4, (World.cell?_of_block (a := ⟨g, 5, none⟩) e).trans h5⟩
set_option maxRecDepth 100000 in
set_option maxHeartbeats 8000000 in
theorem join_any (xs ys : List Nt) (a b : Option Addr) (c d : Nat) (w : World) (hx : RowN w a xs) (hna : a = none → c = 0) (hlc : xs.length ≤ c) (hy : RowN w b ys) (hnb : b = none → d = 0) (hld : ys.length ≤ d) (hlx : xs.length ≤ 200000) (hly : ys.length ≤ 200000) :
    Calls Tryz.prog 52 #[.slice a xs.length c, .slice b ys.length d] w fun e w' => ∃ v, e = .returned (.tuple #[v, .int .i64 (joinP xs ys).2]) ∧ ON w' w.heap.size 53 v (joinP xs ys).1 ∧ Below w.heap.size w w' := by
  have HX := Lib.hid (show Sl w a xs.length c xs from ⟨rfl, hx, hna, hlc⟩)
  have HY := Lib.hid (show Sl w b ys.length d ys from ⟨rfl, hy, hnb, hld⟩)
  have HV := Lib.hid (fun w h => jvalid_any xs a c w h (by omega))
  have HU := Lib.hid (fun w h => jvalid_any ys b d w h (by omega))
  have HE : Hid ((validS xs = false → joinP xs ys = ([], 2)) ∧ (validS ys = false → joinP xs ys = ([], 2)) ∧ (validS xs = true → validS ys = true → (zagB xs ys = false → joinP xs ys = ([], 15)) ∧ (zagB xs ys = true → joinP xs ys = (zipJ xs ys, 0)) ∧ Zi xs ys [] xs ys)) := by
    unfold joinP
    refine ⟨fun h => by rw [h]; rfl, fun h => by rw [h, Bool.and_false]; rfl, fun h1 h2 => ?_⟩
    have hs1 := (validS_iff.1 h1).2
    have hs2 := (validS_iff.1 h2).2
    rw [h1, h2, zag_ag xs ys hs1 hs2]
    refine ⟨fun h => by rw [h]; rfl, fun h => ?_, ⟨rfl, rfl, (validS_iff.1 h1).1, (validS_iff.1 h2).1, by simp; omega⟩⟩
    rw [if_pos (show (true && true) = true from rfl), if_pos h, zip_join h1 h2 h]
  have hli : (xs.length : Int) ≤ 200000 := by omega
  have hli2 : (ys.length : Int) ≤ 200000 := by omega
  have HLx := Lib.hid hlx
  have HLy := Lib.hid hly
  clear hx hna hlc hy hnb hld hlx hly
  generalize joinP xs ys = R0 at *
  obtain ⟨vx, hvx⟩ : ∃ t, t = validS xs := ⟨_, rfl⟩
  obtain ⟨vy, hvy⟩ : ∃ t, t = validS ys := ⟨_, rfl⟩
  rw [← hvx] at HV HE
  rw [← hvy] at HU HE
  clear hvx hvy
  go_enter Tryz.func52, Tryz.ntmps52
  go_wp2_with fail
  refine (HV.out _ HX.out.r).mono ?_
  rintro e w2 ⟨rfl, hb⟩
  have HB := Lib.hid hb
  clear hb HV
  rcases vx with _ | _
  · have HN := Lib.hid (HE.out.1 rfl)
    clear HE
    go_wp2_with fail
    go_ret2
    exact ⟨.slice none 0 0, by rw [HN.out]; rfl, by rw [HN.out]; exact ON.nil _ _ _, HB.out⟩
  go_wp2_with fail
  refine (HU.out _ (HY.out.keep HB.out).r).mono ?_
  rintro e w3 ⟨rfl, hb⟩
  replace HB := bel_tr HB hb
  clear hb HU
  rcases vy with _ | _
  · have HN := Lib.hid (HE.out.2.1 rfl)
    clear HE
    go_wp2_with fail
    go_ret2
    exact ⟨.slice none 0 0, by rw [HN.out]; rfl, by rw [HN.out]; exact ON.nil _ _ _, HB.out⟩
  have HC := Lib.hid (HE.out.2.2 (by first | exact rfl | trivial) (by first | exact rfl | trivial)).1
  have HD := Lib.hid (HE.out.2.2 (by first | exact rfl | trivial) (by first | exact rfl | trivial)).2.1
  have HZ := Lib.hid (HE.out.2.2 (by first | exact rfl | trivial) (by first | exact rfl | trivial)).2.2
  clear HE
  obtain ⟨w4, hmk, hO, hB4⟩ := run_mkS w3 (xs.length + ys.length) (by have := HLx.out; have := HLy.out; omega)
  rw [Int.natCast_add] at hmk
  have HO : Hid (ON w4 w.heap.size 53 (.slice (some ⟨w3.heap.size, 0, none⟩) 0 (xs.length + ys.length)) []) := hO.mono fun x hx => Nat.le_trans HB.out.size (hO.lt x hx).1
  replace HB := bel_tr HB hB4
  clear hO hB4
  generalize w3.heap.size = g3 at *
  have hw2 := wrap_nat (show ((xs.length + ys.length : Nat) : Int) ≤ 140737488355328 by omega)
  rw [Int.natCast_add] at hw2
  obtain ⟨nx, hnx⟩ : ∃ nx, nx = xs.length := ⟨_, rfl⟩
  obtain ⟨ny, hny⟩ : ∃ ny, ny = ys.length := ⟨_, rfl⟩
  rw [← hnx] at HX hmk hw2 HO hli HLx ⊢
  rw [← hny] at HY hmk hw2 HO hli2 HLy ⊢
  clear hnx hny
  go_wp2_with fail
  go_loopw [0, 1, 6, 7, 8, 9, 62, 73] (fun av bv v _ _ _ _ _ wr => ∃ (A B Z : List Nt) (aa bb : Option Addr) (n m ca cb : Nat), av = .slice aa n ca ∧ bv = .slice bb m cb ∧ Hid (Sl w aa n ca A) ∧ Hid (Sl w bb m cb B) ∧ Hid (Below w.heap.size w wr) ∧ Hid (ON wr w.heap.size 53 v Z) ∧ Hid (Zi xs ys Z A B)) (fun av bv _ _ _ _ _ _ _ => lenV av + lenV bv)
  case atStart => exact ⟨xs, ys, [], a, b, nx, ny, c, d, rfl, rfl, HX, HY, HB, HO, HZ⟩
  case round =>
    clear HX HY HB HO HZ hmk hw2
    obtain ⟨A, B, Z, aa, bb, n, m, ca, cb, rfl, rfl, HX, HY, HB, HO, HZ⟩ := hrel
    have HNx := Lib.hid HX.out.n
    have HNy := Lib.hid HY.out.n
    by_cases hEnd : A = [] ∨ B = []
    · have HEn := Lib.hid (HZ.out.end1 hEnd)
      have HLn := Lib.hid HZ.out.l
      have HIs := Lib.hid (HD.out HEn.out.2)
      have HXr := Lib.hid (HX.out.keep HB.out)
      have HYr := Lib.hid HY.out
      rcases Nat.eq_zero_or_pos n with h0 | hn
      · subst h0
        clear hEnd HZ HC HD HX HY HNx HNy
        go_wp2_with (at_builtin; refine wpList_appN rfl _ _ _ rfl Tryz.underlying23 infoN _ Z rfl HO.out aa A ca _ HXr.out.n rfl HXr.out.r HXr.out.z (by have := HLn.out; omega) HB.out.size ?_)
        intro v8 w8 ho hg _
        have HB8 := Lib.hid (HB.out.grown hg HB.out.size (fun k hk => (HO.out.lt k hk).1))
        have HO8 := Lib.hid ho
        have HY8 := Lib.hid (HYr.out.keep HB8.out)
        clear ho hg HO HB HXr HYr
        go_wp2_with (at_builtin; refine wpList_appN rfl _ _ _ rfl Tryz.underlying23 infoN v8 (Z ++ A) rfl HO8.out bb B cb _ HY8.out.n rfl HY8.out.r HY8.out.z (by have := HLn.out; rw [List.length_append]; omega) HB8.out.size ?_)
        intro v9 w9 ho hg _
        have HB9 := Lib.hid (HB8.out.grown hg HB8.out.size (fun k hk => (HO8.out.lt k hk).1))
        have HO9 := Lib.hid ho
        clear ho hg HO8 HB8 HY8
        go_wp2_with fail
        go_ret2
        rw [HIs.out, ← HEn.out.1]
        exact ⟨v9, rfl, by rw [List.append_assoc]; exact HO9.out, HB9.out⟩
      · have hn0 : (0 : Int) < (n : Int) := by omega
        have hm0 : m = 0 := by
          rcases hEnd with h | h
          · have := HNx.out; rw [h] at this; simp at this; omega
          · have := HNy.out; rw [h] at this; simpa using this
        subst hm0
        clear hEnd HZ HC HD HX HY HNx HNy hn
        go_wp2_with (at_builtin; refine wpList_appN rfl _ _ _ rfl Tryz.underlying23 infoN _ Z rfl HO.out aa A ca _ HXr.out.n rfl HXr.out.r HXr.out.z (by have := HLn.out; omega) HB.out.size ?_)
        intro v8 w8 ho hg _
        have HB8 := Lib.hid (HB.out.grown hg HB.out.size (fun k hk => (HO.out.lt k hk).1))
        have HO8 := Lib.hid ho
        have HY8 := Lib.hid (HYr.out.keep HB8.out)
        clear ho hg HO HB HXr HYr
        go_wp2_with (at_builtin; refine wpList_appN rfl _ _ _ rfl Tryz.underlying23 infoN v8 (Z ++ A) rfl HO8.out bb B cb _ HY8.out.n rfl HY8.out.r HY8.out.z (by have := HLn.out; rw [List.length_append]; omega) HB8.out.size ?_)
        intro v9 w9 ho hg _
        have HB9 := Lib.hid (HB8.out.grown hg HB8.out.size (fun k hk => (HO8.out.lt k hk).1))
        have HO9 := Lib.hid ho
        clear ho hg HO8 HB8 HY8
        go_wp2_with fail
        go_ret2
        rw [HIs.out, ← HEn.out.1]
        exact ⟨v9, rfl, by rw [List.append_assoc]; exact HO9.out, HB9.out⟩
    have hEx : ∃ x A', A = x :: A' := by
      rcases A with _ | ⟨x, A'⟩
      · exact absurd (.inl rfl) hEnd
      · exact ⟨x, A', rfl⟩
    have hEy : ∃ y B', B = y :: B' := by
      rcases B with _ | ⟨y, B'⟩
      · exact absurd (.inr rfl) hEnd
      · exact ⟨y, B', rfl⟩
    obtain ⟨x, A, rfl⟩ := hEx
    obtain ⟨y, B, rfl⟩ := hEy
    clear hEnd
    have hn0 : (0 : Int) < (n : Int) := by have := HNx.out; simp at this; omega
    have hm0 : (0 : Int) < (m : Int) := by have := HNy.out; simp at this; omega
    obtain ⟨b1, o1, rfl, hnx⟩ := HX.out.head
    obtain ⟨b2, o2, rfl, hny⟩ := HY.out.head
    have hd := (Below.refl wr.heap.size wr).drew
    have HN1 := Lib.hid hnx
    have HN2 := Lib.hid hny
    have HLn := Lib.hid HZ.out.l
    have HK : Hid (Vab b1 o1 b2 o2 x y wr.drew) := ⟨(hnx.keep HB.out).keep hd, (hny.keep HB.out).keep hd⟩
    have HBd := bel_tr HB hd
    have HOd := Lib.hid (HO.out.below hd)
    have hix := ixN0 b1 o1 n ca (by omega)
    have hix2 := ixN0 b2 o2 m cb (by omega)
    have hs1 : ∀ wx : World, (Instr.slice 23 (.slice (some ⟨b1, o1, none⟩) n ca) (some (.int .i64 1)) none none).run Tryz.prog wx = .ok (.slice (offN (some ⟨b1, o1, none⟩) ca 1) (n - 1) (ca - 1)) wx := cut_hiN _ n ca 1 (n - 1) (by omega) (by have := HX.out.n; have := HX.out.c; omega)
    have hs2 : ∀ wx : World, (Instr.slice 23 (.slice (some ⟨b2, o2, none⟩) m cb) (some (.int .i64 1)) none none).run Tryz.prog wx = .ok (.slice (offN (some ⟨b2, o2, none⟩) cb 1) (m - 1) (cb - 1)) wx := cut_hiN _ m cb 1 (m - 1) (by omega) (by have := HY.out.n; have := HY.out.c; omega)
    have HCp := Lib.hid (fun w => compare_any x.1 y.1 w)
    have HLx1 : Hid (n - 1 < n) := by show _ < _; omega
    have HLy1 : Hid (m - 1 < m) := by show _ < _; omega
    have HX1 := Lib.hid HX.out.tail
    have HY1 := Lib.hid HY.out.tail
    clear hnx hny hd HB HO HNx HNy
    obtain ⟨r, hr⟩ : ∃ r, r = cmpR x.1 y.1 := ⟨_, rfl⟩
    rw [← hr] at HCp
    have HR := Lib.hid hr
    clear hr
    go_wp2_with fail
    refine Sch.wp_region_tn (Vab b1 o1 b2 o2 x y) (.val 0 (.val 1 (.val 2 (.val 3 (.val 4 (.val 5 (.val 6 (.val 7 (.one 8 (.val 9 .done)))))))))) (by kernel_rfl) (by kernel_rfl) HK.out ?_
    repeat (first
      | (refine Sch.tn_q rfl rfl rfl (fun K hK => ?_); go_big_quiet_op; (first | refine hK _ ?_ | refine ⟨_, fun _ _ => rfl, hK _ ?_⟩); clear hK K)
      | (refine Sch.tn_chk _ _ _ rfl rfl rfl rfl rfl ?_; simp only [Act.put, List.setIfInBounds_toArray, List.set_cons_zero, List.set_cons_succ])
      | (refine Sch.tn_load _ _ _ _ _ rfl rfl rfl rfl (by first | exact Vab.ld | exact Vab.lmd) rfl ?_; simp only [Act.put, List.setIfInBounds_toArray, List.set_cons_zero, List.set_cons_succ]))
    generalize wr.drew = w5 at *
    refine Sch.tn_e rfl rfl (fun K hK => ?_)
    go_wp2_with fail
    refine (HCp.out _).mono ?_
    rintro e w6 ⟨rfl, hl⟩
    have hb := hl.bel
    replace HK := Lib.hid (HK.out.keep hb)
    have HB := bel_tr HBd hb
    have HO := Lib.hid (HOd.out.below hb)
    clear hl hb HBd HOd HCp
    refine hK _ _ HK.out ?_
    clear hK K
    repeat (first
      | (refine Sch.tn_q rfl rfl rfl (fun K hK => ?_); go_big_quiet_op; (first | refine hK _ ?_ | refine ⟨_, fun _ _ => rfl, hK _ ?_⟩); clear hK K)
      | (refine Sch.tn_chk _ _ _ rfl rfl rfl rfl rfl ?_; simp only [Act.put, List.setIfInBounds_toArray, List.set_cons_zero, List.set_cons_succ])
      | (refine Sch.tn_load _ _ _ _ _ rfl rfl rfl rfl (by first | exact Vab.ld | exact Vab.lmd) rfl ?_; simp only [Act.put, List.setIfInBounds_toArray, List.set_cons_zero, List.set_cons_succ]))
    refine Sch.tn_n ?_
    rcases hc : less x.1 y.1 with _ | _
    · rcases hc2 : less y.1 x.1 with _ | _
      · have he : x.1 = y.1 := less_tri hc hc2
        have hr0 : r = 0 := by rw [HR.out]; exact cmp_zero.2 he
        subst hr0
        have HEb := Lib.hid (HZ.out.both he)
        clear hc hc2 he HR HZ
        have HMg := Lib.hid (fun w => merge_any x y w)
        obtain ⟨M, hM⟩ : ∃ M, M = mergeN x y := ⟨_, rfl⟩
        rw [← hM] at HMg HEb
        clear hM
        obtain ⟨M1, M2⟩ := M
        obtain ⟨ag, hag⟩ : ∃ ag, ag = agreeN x y := ⟨_, rfl⟩
        rw [← hag] at HEb
        clear hag
        rcases ag with _ | _
        · have h15 : M2 = 15 := (HEb.out.1 rfl).1
          have HN := Lib.hid (HC.out (HEb.out.1 rfl).2)
          subst h15
          clear HEb
          have hd := (Below.refl w6.heap.size w6).drew
          have HK7 := Lib.hid (HK.out.keep hd)
          have HB7 := bel_tr HB hd
          have HO7 := Lib.hid (HO.out.below hd)
          clear hd HK HB HO
          go_wp2_with fail
          refine Sch.wp_region_tn (Vab b1 o1 b2 o2 x y) (.val 0 (.val 1 (.val 2 (.val 3 (.val 4 (.val 5 (.two 6 (.val 7 (.val 8 (.val 9 (.one 10 (.one 11 (.val 12 .done)))))) 10 (.one 6 (.val 7 (.val 8 (.val 9 (.one 11 (.val 12 .done))))))))))))) (by kernel_rfl) (by kernel_rfl) HK7.out ?_
          repeat (first
            | (refine Sch.tn_q rfl rfl rfl (fun K hK => ?_); go_big_quiet_op; (first | refine hK _ ?_ | refine ⟨_, fun _ _ => rfl, hK _ ?_⟩); clear hK K)
            | (refine Sch.tn_chk _ _ _ rfl rfl rfl rfl rfl ?_; simp only [Act.put, List.setIfInBounds_toArray, List.set_cons_zero, List.set_cons_succ])
            | (refine Sch.tn_load _ _ _ _ _ rfl rfl rfl rfl (by first | exact Vab.ln | exact Vab.lm) rfl ?_; simp only [Act.put, List.setIfInBounds_toArray, List.set_cons_zero, List.set_cons_succ]))
          generalize w6.drew = w7 at *
          refine Sch.tn_two ?_ ?_
          · skip
            refine Sch.tn_e rfl rfl (fun K hK => ?_)
            go_wp2_with fail
            refine (HMg.out _).mono ?_
            rintro e w8 ⟨rfl, hb⟩
            have HB8 := bel_tr HB7 hb
            have HO8 := Lib.hid (HO7.out.below hb)
            have HK8 := Lib.hid (HK7.out.keep hb)
            clear hb
            refine hK _ _ HK8.out ?_
            clear hK K
            repeat (first
              | (refine Sch.tn_q rfl rfl rfl (fun K hK => ?_); go_big_quiet_op; (first | refine hK _ ?_ | refine ⟨_, fun _ _ => rfl, hK _ ?_⟩); clear hK K)
              | (refine Sch.tn_chk _ _ _ rfl rfl rfl rfl rfl ?_; simp only [Act.put, List.setIfInBounds_toArray, List.set_cons_zero, List.set_cons_succ])
              | (refine Sch.tn_load _ _ _ _ _ rfl rfl rfl rfl (by first | exact Vab.ln | exact Vab.lm) rfl ?_; simp only [Act.put, List.setIfInBounds_toArray, List.set_cons_zero, List.set_cons_succ]))
            have hz := Zb.new w8
            have hb := bel_box w8 (.cells #[.int .i64 0, .int .i64 0, .int .i64 0, .int .i64 0, .int .i64 0, .int .i32 0] 53)
            have HB9 := bel_tr HB8 hb
            have HO9 := Lib.hid (HO8.out.below hb)
            have HK9 := Lib.hid (HK8.out.keep hb)
            have HLt : Hid (b1 < w8.heap.size ∧ b2 < w8.heap.size) := HK8.out.lt
            have HGe : Hid (w.heap.size ≤ w8.heap.size) := HB8.out.size
            have HOl : Hid (∀ k, Value.ownBlock u6 = some k → k ≠ w8.heap.size) := fun k hk e => by have := (HO8.out.lt k hk).2; omega
            refine Sch.tn_e rfl rfl (fun K hK => ?_)
            go_wp2_with fail
            refine hK _ (w8.alloc (.cells #[.int .i64 0, .int .i64 0, .int .i64 0, .int .i64 0, .int .i64 0, .int .i32 0] 53)) HK9.out ?_
            clear hK K hb
            have HZ9 := Lib.hid hz
            clear hz
            generalize w8.alloc (.cells #[.int .i64 0, .int .i64 0, .int .i64 0, .int .i64 0, .int .i64 0, .int .i32 0] 53) = w9 at *
            generalize w8.heap.size = g at *
            obtain ⟨⟨z0, z1, z2, z3, z4, z5⟩, hf⟩ := HZ9.out
            have f0 := hf 0
            have f1 := hf 1
            have f2 := hf 2
            have f3 := hf 3
            have f4 := hf 4
            have f5 := hf 5
            clear hf
            refine Sch.tn_e rfl rfl (fun K hK => ?_)
            go_wp2_with fail
            refine hK _ (Nd.putN w9 g M1) (HK9.out.put HLt.out.1 HLt.out.2 M1) ?_
            clear hK K z0 z1 z2 z3 z4 z5 f0 f1 f2 f3 f4 f5
            have HB14 := Lib.hid (Nd.putN_below HB9.out HGe.out M1)
            have HO14 := Lib.hid (HO9.out.keep (Jn.gb_putN w9 g M1) (by rcases hob : Value.ownBlock u6 with _ | k; exact .inl rfl; exact .inr (by have := HOl.out k hob; simp; omega)))
            have HX14 := Lib.hid (Qs.put_nb HZ9.out M1)
            generalize Nd.putN w9 g M1 = w14 at *
            repeat (first
              | (refine Sch.tn_q rfl rfl rfl (fun K hK => ?_); go_big_quiet_op; (first | refine hK _ ?_ | refine ⟨_, fun _ _ => rfl, hK _ ?_⟩); clear hK K)
              | (refine Sch.tn_chk _ _ _ rfl rfl rfl rfl rfl ?_; simp only [Act.put, List.setIfInBounds_toArray, List.set_cons_zero, List.set_cons_succ])
              | (refine Sch.tn_load _ _ _ _ _ rfl rfl rfl rfl (by first | exact Vab.ln | exact Vab.lm) rfl ?_; simp only [Act.put, List.setIfInBounds_toArray, List.set_cons_zero, List.set_cons_succ]))
            refine Sch.tn_n ?_
            go_wp2_with fail
            go_ret2
            exact ⟨.slice none 0 0, by rw [HN.out]; rfl, by rw [HN.out]; exact ON.nil _ _ _, HB14.out⟩
          · skip
            have hz := Zb.new w7
            have hb := bel_box w7 (.cells #[.int .i64 0, .int .i64 0, .int .i64 0, .int .i64 0, .int .i64 0, .int .i32 0] 53)
            have HB8 := bel_tr HB7 hb
            have HO8 := Lib.hid (HO7.out.below hb)
            have HK8 := Lib.hid (HK7.out.keep hb)
            have HLt : Hid (b1 < w7.heap.size ∧ b2 < w7.heap.size) := HK7.out.lt
            have HGe : Hid (w.heap.size ≤ w7.heap.size) := HB7.out.size
            have HOl : Hid (∀ k, Value.ownBlock u6 = some k → k ≠ w7.heap.size) := fun k hk e => by have := (HO7.out.lt k hk).2; omega
            refine Sch.tn_e rfl rfl (fun K hK => ?_)
            go_wp2_with fail
            refine hK _ (w7.alloc (.cells #[.int .i64 0, .int .i64 0, .int .i64 0, .int .i64 0, .int .i64 0, .int .i32 0] 53)) HK8.out ?_
            clear hK K hb
            have HZ8 := Lib.hid hz
            clear hz
            generalize w7.alloc (.cells #[.int .i64 0, .int .i64 0, .int .i64 0, .int .i64 0, .int .i64 0, .int .i32 0] 53) = w8 at *
            generalize w7.heap.size = g at *
            refine Sch.tn_e rfl rfl (fun K hK => ?_)
            go_wp2_with fail
            refine (HMg.out _).mono ?_
            rintro e w9 ⟨rfl, hb⟩
            have HB9 := bel_tr HB8 hb
            have HO9 := Lib.hid (HO8.out.below hb)
            have HK9 := Lib.hid (HK8.out.keep hb)
            have HZ9 := Lib.hid (HZ8.out.keep hb)
            clear hb
            refine hK _ _ HK9.out ?_
            clear hK K
            repeat (first
              | (refine Sch.tn_q rfl rfl rfl (fun K hK => ?_); go_big_quiet_op; (first | refine hK _ ?_ | refine ⟨_, fun _ _ => rfl, hK _ ?_⟩); clear hK K)
              | (refine Sch.tn_chk _ _ _ rfl rfl rfl rfl rfl ?_; simp only [Act.put, List.setIfInBounds_toArray, List.set_cons_zero, List.set_cons_succ])
              | (refine Sch.tn_load _ _ _ _ _ rfl rfl rfl rfl (by first | exact Vab.ln | exact Vab.lm) rfl ?_; simp only [Act.put, List.setIfInBounds_toArray, List.set_cons_zero, List.set_cons_succ]))
            obtain ⟨⟨z0, z1, z2, z3, z4, z5⟩, hf⟩ := HZ9.out
            have f0 := hf 0
            have f1 := hf 1
            have f2 := hf 2
            have f3 := hf 3
            have f4 := hf 4
            have f5 := hf 5
            clear hf
            refine Sch.tn_e rfl rfl (fun K hK => ?_)
            go_wp2_with fail
            refine hK _ (Nd.putN w9 g M1) (HK9.out.put HLt.out.1 HLt.out.2 M1) ?_
            clear hK K z0 z1 z2 z3 z4 z5 f0 f1 f2 f3 f4 f5
            have HB14 := Lib.hid (Nd.putN_below HB9.out HGe.out M1)
            have HO14 := Lib.hid (HO9.out.keep (Jn.gb_putN w9 g M1) (by rcases hob : Value.ownBlock u6 with _ | k; exact .inl rfl; exact .inr (by have := HOl.out k hob; simp; omega)))
            have HX14 := Lib.hid (Qs.put_nb HZ9.out M1)
            generalize Nd.putN w9 g M1 = w14 at *
            repeat (first
              | (refine Sch.tn_q rfl rfl rfl (fun K hK => ?_); go_big_quiet_op; (first | refine hK _ ?_ | refine ⟨_, fun _ _ => rfl, hK _ ?_⟩); clear hK K)
              | (refine Sch.tn_chk _ _ _ rfl rfl rfl rfl rfl ?_; simp only [Act.put, List.setIfInBounds_toArray, List.set_cons_zero, List.set_cons_succ])
              | (refine Sch.tn_load _ _ _ _ _ rfl rfl rfl rfl (by first | exact Vab.ln | exact Vab.lm) rfl ?_; simp only [Act.put, List.setIfInBounds_toArray, List.set_cons_zero, List.set_cons_succ]))
            refine Sch.tn_n ?_
            go_wp2_with fail
            go_ret2
            exact ⟨.slice none 0 0, by rw [HN.out]; rfl, by rw [HN.out]; exact ON.nil _ _ _, HB14.out⟩
        · have h15 : M2 = 0 := (HEb.out.2 rfl).1
          have HN := Lib.hid (HEb.out.2 rfl).2
          subst h15
          clear HEb
          have hd := (Below.refl w6.heap.size w6).drew
          have HK7 := Lib.hid (HK.out.keep hd)
          have HB7 := bel_tr HB hd
          have HO7 := Lib.hid (HO.out.below hd)
          clear hd HK HB HO
          go_wp2_with fail
          refine Sch.wp_region_tn (Vab b1 o1 b2 o2 x y) (.val 0 (.val 1 (.val 2 (.val 3 (.val 4 (.val 5 (.two 6 (.val 7 (.val 8 (.val 9 (.one 10 (.one 11 (.val 12 .done)))))) 10 (.one 6 (.val 7 (.val 8 (.val 9 (.one 11 (.val 12 .done))))))))))))) (by kernel_rfl) (by kernel_rfl) HK7.out ?_
          repeat (first
            | (refine Sch.tn_q rfl rfl rfl (fun K hK => ?_); go_big_quiet_op; (first | refine hK _ ?_ | refine ⟨_, fun _ _ => rfl, hK _ ?_⟩); clear hK K)
            | (refine Sch.tn_chk _ _ _ rfl rfl rfl rfl rfl ?_; simp only [Act.put, List.setIfInBounds_toArray, List.set_cons_zero, List.set_cons_succ])
            | (refine Sch.tn_load _ _ _ _ _ rfl rfl rfl rfl (by first | exact Vab.ln | exact Vab.lm) rfl ?_; simp only [Act.put, List.setIfInBounds_toArray, List.set_cons_zero, List.set_cons_succ]))
          generalize w6.drew = w7 at *
          refine Sch.tn_two ?_ ?_
          · skip
            refine Sch.tn_e rfl rfl (fun K hK => ?_)
            go_wp2_with fail
            refine (HMg.out _).mono ?_
            rintro e w8 ⟨rfl, hb⟩
            have HB8 := bel_tr HB7 hb
            have HO8 := Lib.hid (HO7.out.below hb)
            have HK8 := Lib.hid (HK7.out.keep hb)
            clear hb
            refine hK _ _ HK8.out ?_
            clear hK K
            repeat (first
              | (refine Sch.tn_q rfl rfl rfl (fun K hK => ?_); go_big_quiet_op; (first | refine hK _ ?_ | refine ⟨_, fun _ _ => rfl, hK _ ?_⟩); clear hK K)
              | (refine Sch.tn_chk _ _ _ rfl rfl rfl rfl rfl ?_; simp only [Act.put, List.setIfInBounds_toArray, List.set_cons_zero, List.set_cons_succ])
              | (refine Sch.tn_load _ _ _ _ _ rfl rfl rfl rfl (by first | exact Vab.ln | exact Vab.lm) rfl ?_; simp only [Act.put, List.setIfInBounds_toArray, List.set_cons_zero, List.set_cons_succ]))
            have hz := Zb.new w8
            have hb := bel_box w8 (.cells #[.int .i64 0, .int .i64 0, .int .i64 0, .int .i64 0, .int .i64 0, .int .i32 0] 53)
            have HB9 := bel_tr HB8 hb
            have HO9 := Lib.hid (HO8.out.below hb)
            have HK9 := Lib.hid (HK8.out.keep hb)
            have HLt : Hid (b1 < w8.heap.size ∧ b2 < w8.heap.size) := HK8.out.lt
            have HGe : Hid (w.heap.size ≤ w8.heap.size) := HB8.out.size
            have HOl : Hid (∀ k, Value.ownBlock u6 = some k → k ≠ w8.heap.size) := fun k hk e => by have := (HO8.out.lt k hk).2; omega
            refine Sch.tn_e rfl rfl (fun K hK => ?_)
            go_wp2_with fail
            refine hK _ (w8.alloc (.cells #[.int .i64 0, .int .i64 0, .int .i64 0, .int .i64 0, .int .i64 0, .int .i32 0] 53)) HK9.out ?_
            clear hK K hb
            have HZ9 := Lib.hid hz
            clear hz
            generalize w8.alloc (.cells #[.int .i64 0, .int .i64 0, .int .i64 0, .int .i64 0, .int .i64 0, .int .i32 0] 53) = w9 at *
            generalize w8.heap.size = g at *
            obtain ⟨⟨z0, z1, z2, z3, z4, z5⟩, hf⟩ := HZ9.out
            have f0 := hf 0
            have f1 := hf 1
            have f2 := hf 2
            have f3 := hf 3
            have f4 := hf 4
            have f5 := hf 5
            clear hf
            refine Sch.tn_e rfl rfl (fun K hK => ?_)
            go_wp2_with fail
            refine hK _ (Nd.putN w9 g M1) (HK9.out.put HLt.out.1 HLt.out.2 M1) ?_
            clear hK K z0 z1 z2 z3 z4 z5 f0 f1 f2 f3 f4 f5
            have HB14 := Lib.hid (Nd.putN_below HB9.out HGe.out M1)
            have HO14 := Lib.hid (HO9.out.keep (Jn.gb_putN w9 g M1) (by rcases hob : Value.ownBlock u6 with _ | k; exact .inl rfl; exact .inr (by have := HOl.out k hob; simp; omega)))
            have HX14 := Lib.hid (Qs.put_nb HZ9.out M1)
            generalize Nd.putN w9 g M1 = w14 at *
            repeat (first
              | (refine Sch.tn_q rfl rfl rfl (fun K hK => ?_); go_big_quiet_op; (first | refine hK _ ?_ | refine ⟨_, fun _ _ => rfl, hK _ ?_⟩); clear hK K)
              | (refine Sch.tn_chk _ _ _ rfl rfl rfl rfl rfl ?_; simp only [Act.put, List.setIfInBounds_toArray, List.set_cons_zero, List.set_cons_succ])
              | (refine Sch.tn_load _ _ _ _ _ rfl rfl rfl rfl (by first | exact Vab.ln | exact Vab.lm) rfl ?_; simp only [Act.put, List.setIfInBounds_toArray, List.set_cons_zero, List.set_cons_succ]))
            refine Sch.tn_n ?_
            have hd := (Below.refl w14.heap.size w14).drew
            have HKs : Hid (Kb6 g M1 w14.drew) := Nb.keep HX14.out hd
            have HXs := Lib.hid (Nb.keep HX14.out hd)
            have HBs := bel_tr HB14 hd
            have HOs := Lib.hid (HO14.out.below hd)
            clear hd HB14 HO14 HX14
            go_wp2_with fail
            refine Sch.wp_region_tn (Kb6 g M1) (.val 0 (.val 1 (.val 4 (.val 5 (.val 6 (.val 7 (.one 2 (.one 3 (.val 8 (.val 9 (.val 10 .done))))))))))) (by kernel_rfl) (by kernel_rfl) HKs.out ?_
            repeat (first
              | (refine Sch.tn_q rfl rfl rfl (fun K hK => ?_); go_big_quiet_op; (first | refine hK _ ?_ | refine ⟨_, fun _ _ => rfl, hK _ ?_⟩); clear hK K)
              | (refine Sch.tn_chk _ _ _ rfl rfl rfl rfl rfl ?_; simp only [Act.put, List.setIfInBounds_toArray, List.set_cons_zero, List.set_cons_succ])
              | (refine Sch.tn_load _ _ _ _ _ rfl rfl rfl rfl (by first | exact Kb6.l) rfl ?_; simp only [Act.put, List.setIfInBounds_toArray, List.set_cons_zero, List.set_cons_succ]))
            generalize w14.drew = w15 at *
            refine Sch.tn_e rfl rfl (fun K hK => ?_)
            go_wp2_with fail
            have hb := bel_box w15 (.cells (nc M1) 53)
            have HL8 : Hid (RowN (w15.alloc (.cells (nc M1) 53)) (some ⟨w15.heap.size, 0, none⟩) [M1]) := RowN.lit w15 [M1] _ _ _ rfl
            have HK8 : Hid (Kb6 g M1 (w15.alloc (.cells (nc M1) 53))) := Nb.keep HXs.out hb
            have HB8 := bel_tr HBs hb
            have HO8 := Lib.hid (HOs.out.below hb)
            clear hb HKs HBs HOs
            refine hK _ _ HK8.out ?_
            clear hK K
            generalize (w15.alloc (.cells (nc M1) 53)) = w16 at *
            refine Sch.tn_e rfl rfl (fun K hK => ?_)
            refine wp_appN _ _ _ rfl Tryz.underlying23 infoN _ Z rfl HO8.out (some ⟨w15.heap.size, 0, none⟩) [M1] 1 1 rfl rfl HL8.out (fun h => by cases h) (by have := HLn.out; simp at this ⊢; omega) HB8.out.size ?_
            intro v17 w17 ho hg _
            have HB17 := Lib.hid (HB8.out.grown hg HB8.out.size (fun k hk => (HO8.out.lt k hk).1))
            have HO17 := Lib.hid ho
            have HK17 : Hid (Kb6 g M1 w17) := nb_own HK8.out hg HOl.out
            clear ho hg HB8 HO8 HL8 HK8
            refine hK _ _ HK17.out ?_
            clear hK K
            simp only [Act.put, List.setIfInBounds_toArray, List.set_cons_zero, List.set_cons_succ]
            repeat (first
              | (refine Sch.tn_q rfl rfl rfl (fun K hK => ?_); go_big_quiet_op; (first | refine hK _ ?_ | refine ⟨_, fun _ _ => rfl, hK _ ?_⟩); clear hK K)
              | (refine Sch.tn_chk _ _ _ rfl rfl rfl rfl rfl ?_; simp only [Act.put, List.setIfInBounds_toArray, List.set_cons_zero, List.set_cons_succ])
              | (refine Sch.tn_load _ _ _ _ _ rfl rfl rfl rfl (by first | exact Kb6.l) rfl ?_; simp only [Act.put, List.setIfInBounds_toArray, List.set_cons_zero, List.set_cons_succ]))
            refine Sch.tn_n ?_
            go_wp2_with fail
            go_roundw
            case rel => exact ⟨A, B, Z ++ [M1], _, _, _, _, _, _, rfl, rfl, HX1, HY1, HB17, HO17, HN⟩
            case measure => have := HLx1.out; have := HLy1.out; simp [lenV]; omega
          · skip
            have hz := Zb.new w7
            have hb := bel_box w7 (.cells #[.int .i64 0, .int .i64 0, .int .i64 0, .int .i64 0, .int .i64 0, .int .i32 0] 53)
            have HB8 := bel_tr HB7 hb
            have HO8 := Lib.hid (HO7.out.below hb)
            have HK8 := Lib.hid (HK7.out.keep hb)
            have HLt : Hid (b1 < w7.heap.size ∧ b2 < w7.heap.size) := HK7.out.lt
            have HGe : Hid (w.heap.size ≤ w7.heap.size) := HB7.out.size
            have HOl : Hid (∀ k, Value.ownBlock u6 = some k → k ≠ w7.heap.size) := fun k hk e => by have := (HO7.out.lt k hk).2; omega
            refine Sch.tn_e rfl rfl (fun K hK => ?_)
            go_wp2_with fail
            refine hK _ (w7.alloc (.cells #[.int .i64 0, .int .i64 0, .int .i64 0, .int .i64 0, .int .i64 0, .int .i32 0] 53)) HK8.out ?_
            clear hK K hb
            have HZ8 := Lib.hid hz
            clear hz
            generalize w7.alloc (.cells #[.int .i64 0, .int .i64 0, .int .i64 0, .int .i64 0, .int .i64 0, .int .i32 0] 53) = w8 at *
            generalize w7.heap.size = g at *
            refine Sch.tn_e rfl rfl (fun K hK => ?_)
            go_wp2_with fail
            refine (HMg.out _).mono ?_
            rintro e w9 ⟨rfl, hb⟩
            have HB9 := bel_tr HB8 hb
            have HO9 := Lib.hid (HO8.out.below hb)
            have HK9 := Lib.hid (HK8.out.keep hb)
            have HZ9 := Lib.hid (HZ8.out.keep hb)
            clear hb
            refine hK _ _ HK9.out ?_
            clear hK K
            repeat (first
              | (refine Sch.tn_q rfl rfl rfl (fun K hK => ?_); go_big_quiet_op; (first | refine hK _ ?_ | refine ⟨_, fun _ _ => rfl, hK _ ?_⟩); clear hK K)
              | (refine Sch.tn_chk _ _ _ rfl rfl rfl rfl rfl ?_; simp only [Act.put, List.setIfInBounds_toArray, List.set_cons_zero, List.set_cons_succ])
              | (refine Sch.tn_load _ _ _ _ _ rfl rfl rfl rfl (by first | exact Vab.ln | exact Vab.lm) rfl ?_; simp only [Act.put, List.setIfInBounds_toArray, List.set_cons_zero, List.set_cons_succ]))
            obtain ⟨⟨z0, z1, z2, z3, z4, z5⟩, hf⟩ := HZ9.out
            have f0 := hf 0
            have f1 := hf 1
            have f2 := hf 2
            have f3 := hf 3
            have f4 := hf 4
            have f5 := hf 5
            clear hf
            refine Sch.tn_e rfl rfl (fun K hK => ?_)
            go_wp2_with fail
            refine hK _ (Nd.putN w9 g M1) (HK9.out.put HLt.out.1 HLt.out.2 M1) ?_
            clear hK K z0 z1 z2 z3 z4 z5 f0 f1 f2 f3 f4 f5
            have HB14 := Lib.hid (Nd.putN_below HB9.out HGe.out M1)
            have HO14 := Lib.hid (HO9.out.keep (Jn.gb_putN w9 g M1) (by rcases hob : Value.ownBlock u6 with _ | k; exact .inl rfl; exact .inr (by have := HOl.out k hob; simp; omega)))
            have HX14 := Lib.hid (Qs.put_nb HZ9.out M1)
            generalize Nd.putN w9 g M1 = w14 at *
            repeat (first
              | (refine Sch.tn_q rfl rfl rfl (fun K hK => ?_); go_big_quiet_op; (first | refine hK _ ?_ | refine ⟨_, fun _ _ => rfl, hK _ ?_⟩); clear hK K)
              | (refine Sch.tn_chk _ _ _ rfl rfl rfl rfl rfl ?_; simp only [Act.put, List.setIfInBounds_toArray, List.set_cons_zero, List.set_cons_succ])
              | (refine Sch.tn_load _ _ _ _ _ rfl rfl rfl rfl (by first | exact Vab.ln | exact Vab.lm) rfl ?_; simp only [Act.put, List.setIfInBounds_toArray, List.set_cons_zero, List.set_cons_succ]))
            refine Sch.tn_n ?_
            have hd := (Below.refl w14.heap.size w14).drew
            have HKs : Hid (Kb6 g M1 w14.drew) := Nb.keep HX14.out hd
            have HXs := Lib.hid (Nb.keep HX14.out hd)
            have HBs := bel_tr HB14 hd
            have HOs := Lib.hid (HO14.out.below hd)
            clear hd HB14 HO14 HX14
            go_wp2_with fail
            refine Sch.wp_region_tn (Kb6 g M1) (.val 0 (.val 1 (.val 4 (.val 5 (.val 6 (.val 7 (.one 2 (.one 3 (.val 8 (.val 9 (.val 10 .done))))))))))) (by kernel_rfl) (by kernel_rfl) HKs.out ?_
            repeat (first
              | (refine Sch.tn_q rfl rfl rfl (fun K hK => ?_); go_big_quiet_op; (first | refine hK _ ?_ | refine ⟨_, fun _ _ => rfl, hK _ ?_⟩); clear hK K)
              | (refine Sch.tn_chk _ _ _ rfl rfl rfl rfl rfl ?_; simp only [Act.put, List.setIfInBounds_toArray, List.set_cons_zero, List.set_cons_succ])
              | (refine Sch.tn_load _ _ _ _ _ rfl rfl rfl rfl (by first | exact Kb6.l) rfl ?_; simp only [Act.put, List.setIfInBounds_toArray, List.set_cons_zero, List.set_cons_succ]))
            generalize w14.drew = w15 at *
            refine Sch.tn_e rfl rfl (fun K hK => ?_)
            go_wp2_with fail
            have hb := bel_box w15 (.cells (nc M1) 53)
            have HL8 : Hid (RowN (w15.alloc (.cells (nc M1) 53)) (some ⟨w15.heap.size, 0, none⟩) [M1]) := RowN.lit w15 [M1] _ _ _ rfl
            have HK8 : Hid (Kb6 g M1 (w15.alloc (.cells (nc M1) 53))) := Nb.keep HXs.out hb
            have HB8 := bel_tr HBs hb
            have HO8 := Lib.hid (HOs.out.below hb)
            clear hb HKs HBs HOs
            refine hK _ _ HK8.out ?_
            clear hK K
            generalize (w15.alloc (.cells (nc M1) 53)) = w16 at *
            refine Sch.tn_e rfl rfl (fun K hK => ?_)
            refine wp_appN _ _ _ rfl Tryz.underlying23 infoN _ Z rfl HO8.out (some ⟨w15.heap.size, 0, none⟩) [M1] 1 1 rfl rfl HL8.out (fun h => by cases h) (by have := HLn.out; simp at this ⊢; omega) HB8.out.size ?_
            intro v17 w17 ho hg _
            have HB17 := Lib.hid (HB8.out.grown hg HB8.out.size (fun k hk => (HO8.out.lt k hk).1))
            have HO17 := Lib.hid ho
            have HK17 : Hid (Kb6 g M1 w17) := nb_own HK8.out hg HOl.out
            clear ho hg HB8 HO8 HL8 HK8
            refine hK _ _ HK17.out ?_
            clear hK K
            simp only [Act.put, List.setIfInBounds_toArray, List.set_cons_zero, List.set_cons_succ]
            repeat (first
              | (refine Sch.tn_q rfl rfl rfl (fun K hK => ?_); go_big_quiet_op; (first | refine hK _ ?_ | refine ⟨_, fun _ _ => rfl, hK _ ?_⟩); clear hK K)
              | (refine Sch.tn_chk _ _ _ rfl rfl rfl rfl rfl ?_; simp only [Act.put, List.setIfInBounds_toArray, List.set_cons_zero, List.set_cons_succ])
              | (refine Sch.tn_load _ _ _ _ _ rfl rfl rfl rfl (by first | exact Kb6.l) rfl ?_; simp only [Act.put, List.setIfInBounds_toArray, List.set_cons_zero, List.set_cons_succ]))
            refine Sch.tn_n ?_
            go_wp2_with fail
            go_roundw
            case rel => exact ⟨A, B, Z ++ [M1], _, _, _, _, _, _, rfl, rfl, HX1, HY1, HB17, HO17, HN⟩
            case measure => have := HLx1.out; have := HLy1.out; simp [lenV]; omega
      · have hr0 : 0 < r := by rw [HR.out]; exact cmp_pos.2 hc2
        have hr1 : ¬ r < 0 := by omega
        have HZ1 := Lib.hid (HZ.out.right hc2)
        clear hc hc2 HR HZ
        have hd := (Below.refl w6.heap.size w6).drew
        have HKs : Hid (Kq b2 o2 y w6.drew) := (HN2.out.keep HB.out).keep hd
        have HBs := bel_tr HB hd
        have HOs := Lib.hid (HO.out.below hd)
        clear hd HK HB HO
        go_wp2_with fail
        refine Sch.wp_region_tn (Kq b2 o2 y) (.val 0 (.val 1 (.val 2 (.val 3 (.val 6 (.val 7 (.one 4 (.one 5 (.val 8 (.val 9 .done)))))))))) (by kernel_rfl) (by kernel_rfl) HKs.out ?_
        repeat (first
          | (refine Sch.tn_q rfl rfl rfl (fun K hK => ?_); go_big_quiet_op; (first | refine hK _ ?_ | refine ⟨_, fun _ _ => rfl, hK _ ?_⟩); clear hK K)
          | (refine Sch.tn_chk _ _ _ rfl rfl rfl rfl rfl ?_; simp only [Act.put, List.setIfInBounds_toArray, List.set_cons_zero, List.set_cons_succ])
          | (refine Sch.tn_load _ _ _ _ _ rfl rfl rfl rfl (by first | exact Kq.l) rfl ?_; simp only [Act.put, List.setIfInBounds_toArray, List.set_cons_zero, List.set_cons_succ]))
        generalize w6.drew = w7 at *
        refine Sch.tn_e rfl rfl (fun K hK => ?_)
        go_wp2_with fail
        have hb := bel_box w7 (.cells (nc y) 53)
        have HL8 : Hid (RowN (w7.alloc (.cells (nc y) 53)) (some ⟨w7.heap.size, 0, none⟩) [y]) := RowN.lit w7 [y] _ _ _ rfl
        have HK8 := Lib.hid (HKs.out.keep hb)
        have HB8 := bel_tr HBs hb
        have HO8 := Lib.hid (HOs.out.below hb)
        clear hb HKs HBs HOs
        refine hK _ _ HK8.out ?_
        clear hK K
        generalize (w7.alloc (.cells (nc y) 53)) = w8 at *
        refine Sch.tn_e rfl rfl (fun K hK => ?_)
        refine wp_appN _ _ _ rfl Tryz.underlying23 infoN _ Z rfl HO8.out (some ⟨w7.heap.size, 0, none⟩) [y] 1 1 rfl rfl HL8.out (fun h => by cases h) (by have := HLn.out; simp at this ⊢; omega) HB8.out.size ?_
        intro v9 w9 ho hg _
        have HB9 := Lib.hid (HB8.out.grown hg HB8.out.size (fun k hk => (HO8.out.lt k hk).1))
        have HO9 := Lib.hid ho
        have HK9 : Hid (Kq b2 o2 y w9) := HN2.out.keep HB9.out
        clear ho hg HB8 HO8 HL8 HK8
        refine hK _ _ HK9.out ?_
        clear hK K
        simp only [Act.put, List.setIfInBounds_toArray, List.set_cons_zero, List.set_cons_succ]
        repeat (first
          | (refine Sch.tn_q rfl rfl rfl (fun K hK => ?_); go_big_quiet_op; (first | refine hK _ ?_ | refine ⟨_, fun _ _ => rfl, hK _ ?_⟩); clear hK K)
          | (refine Sch.tn_chk _ _ _ rfl rfl rfl rfl rfl ?_; simp only [Act.put, List.setIfInBounds_toArray, List.set_cons_zero, List.set_cons_succ])
          | (refine Sch.tn_load _ _ _ _ _ rfl rfl rfl rfl (by first | exact Kq.l) rfl ?_; simp only [Act.put, List.setIfInBounds_toArray, List.set_cons_zero, List.set_cons_succ]))
        refine Sch.tn_n ?_
        go_wp2_with fail
        go_roundw
        case rel => exact ⟨x :: A, B, Z ++ [y], _, _, _, _, _, _, rfl, rfl, HX, HY1, HB9, HO9, HZ1⟩
        case measure => have := HLx1.out; have := HLy1.out; simp [lenV]; omega
    · have hr0 : r < 0 := by rw [HR.out]; exact cmp_neg.2 hc
      have HZ1 := Lib.hid (HZ.out.left hc)
      clear hc HR HZ
      have hd := (Below.refl w6.heap.size w6).drew
      have HKs : Hid (Kq b1 o1 x w6.drew) := (HN1.out.keep HB.out).keep hd
      have HBs := bel_tr HB hd
      have HOs := Lib.hid (HO.out.below hd)
      clear hd HK HB HO
      go_wp2_with fail
      refine Sch.wp_region_tn (Kq b1 o1 x) (.val 0 (.val 1 (.val 2 (.val 3 (.val 6 (.val 7 (.one 4 (.one 5 (.val 8 (.val 9 .done)))))))))) (by kernel_rfl) (by kernel_rfl) HKs.out ?_
      repeat (first
        | (refine Sch.tn_q rfl rfl rfl (fun K hK => ?_); go_big_quiet_op; (first | refine hK _ ?_ | refine ⟨_, fun _ _ => rfl, hK _ ?_⟩); clear hK K)
        | (refine Sch.tn_chk _ _ _ rfl rfl rfl rfl rfl ?_; simp only [Act.put, List.setIfInBounds_toArray, List.set_cons_zero, List.set_cons_succ])
        | (refine Sch.tn_load _ _ _ _ _ rfl rfl rfl rfl (by first | exact Kq.l) rfl ?_; simp only [Act.put, List.setIfInBounds_toArray, List.set_cons_zero, List.set_cons_succ]))
      generalize w6.drew = w7 at *
      refine Sch.tn_e rfl rfl (fun K hK => ?_)
      go_wp2_with fail
      have hb := bel_box w7 (.cells (nc x) 53)
      have HL8 : Hid (RowN (w7.alloc (.cells (nc x) 53)) (some ⟨w7.heap.size, 0, none⟩) [x]) := RowN.lit w7 [x] _ _ _ rfl
      have HK8 := Lib.hid (HKs.out.keep hb)
      have HB8 := bel_tr HBs hb
      have HO8 := Lib.hid (HOs.out.below hb)
      clear hb HKs HBs HOs
      refine hK _ _ HK8.out ?_
      clear hK K
      generalize (w7.alloc (.cells (nc x) 53)) = w8 at *
      refine Sch.tn_e rfl rfl (fun K hK => ?_)
      refine wp_appN _ _ _ rfl Tryz.underlying23 infoN _ Z rfl HO8.out (some ⟨w7.heap.size, 0, none⟩) [x] 1 1 rfl rfl HL8.out (fun h => by cases h) (by have := HLn.out; simp at this ⊢; omega) HB8.out.size ?_
      intro v9 w9 ho hg _
      have HB9 := Lib.hid (HB8.out.grown hg HB8.out.size (fun k hk => (HO8.out.lt k hk).1))
      have HO9 := Lib.hid ho
      have HK9 : Hid (Kq b1 o1 x w9) := HN1.out.keep HB9.out
      clear ho hg HB8 HO8 HL8 HK8
      refine hK _ _ HK9.out ?_
      clear hK K
      simp only [Act.put, List.setIfInBounds_toArray, List.set_cons_zero, List.set_cons_succ]
      repeat (first
        | (refine Sch.tn_q rfl rfl rfl (fun K hK => ?_); go_big_quiet_op; (first | refine hK _ ?_ | refine ⟨_, fun _ _ => rfl, hK _ ?_⟩); clear hK K)
        | (refine Sch.tn_chk _ _ _ rfl rfl rfl rfl rfl ?_; simp only [Act.put, List.setIfInBounds_toArray, List.set_cons_zero, List.set_cons_succ])
        | (refine Sch.tn_load _ _ _ _ _ rfl rfl rfl rfl (by first | exact Kq.l) rfl ?_; simp only [Act.put, List.setIfInBounds_toArray, List.set_cons_zero, List.set_cons_succ]))
      refine Sch.tn_n ?_
      go_wp2_with fail
      go_roundw
      case rel => exact ⟨A, y :: B, Z ++ [x], _, _, _, _, _, _, rfl, rfl, HX1, HY, HB9, HO9, HZ1⟩
      case measure => have := HLx1.out; have := HLy1.out; simp [lenV]; omega
end Go.Proofs.YtkcbekebleodaaaGreat.Jn
end

/-
  Kill of the program.
-/
section
namespace Go.Proofs.YtkcbekebleodaaaGreat.Qs
set_option linter.unusedVariables false
open Go.RowKit V Go.Sort D Nd

theorem enters_noDot : ∀ args w, (callFunc 72 args).run Tryz.prog w = .ok (.enter 72 args) w := enters_of Tryz.func72 (by kernel_rfl) rfl
set_option maxRecDepth 100000 in
theorem noDot_any (d : Dt) (w : World) : Calls Tryz.prog 72 #[dv d] w fun e w' => e = .returned (.bool (!validR d)) ∧ Below w.heap.size w w' := by
  have HV := Lib.hid (fun w => D.valid_any d w)
  generalize validR d = R at *
  obtain ⟨d1, d2⟩ := d
  go_enter Tryz.func72, Tryz.ntmps72
  go_wp2_with fail
  refine (HV.out _).mono ?_
  rintro e w2 ⟨rfl, hl⟩
  have HB := bel_tr (Lib.hid (bel_box w _)) hl
  clear hl HV
  go_wp2_with fail
  go_ret
  exact ⟨rfl, HB.out⟩
theorem ask_noDot (w : World) (l : List Dt) : F.Ask w 72 #[] l (fun d => !validR d) := fun W _ d _ => noDot_any d W

def killP (l : List Nt) (dots : List Dt) : List Nt × Int := if (validS l && dots.all validR) = true then killS l dots else ([], 2)
theorem killAt_congr {n : Nt} {a b : List Dt} (h : n.1 ∈ b ↔ n.1 ∈ a) : killAt a n = killAt b n := by
  unfold killAt
  by_cases hm : n.1 ∈ a
  · rw [if_pos hm, if_pos (h.2 hm)]
  · rw [if_neg hm, if_neg (fun k => hm (h.1 k))]
theorem kill_step {l : List Nt} {dots : List Dt} {k i : Nat} (hl : DN l) (hk : k < dots.length) (hi : i < l.length) (e : l[i].1 = dots[k]) {q : Nt} (hq : q = (l.map (killAt (dots.take k)))[i]'(by simpa using hi)) :
    (l.map (killAt (dots.take k))).set i (killN q) = l.map (killAt (dots.take (k + 1))) := by
  subst hq
  have et : dots.take (k + 1) = dots.take k ++ [dots[k]] := by rw [List.take_add_one, List.getElem?_eq_getElem hk]; rfl
  apply List.ext_getElem (by simp)
  intro j h1 h2
  have hj : j < l.length := by simpa using h2
  rw [List.getElem_set]
  by_cases hij : i = j
  · subst hij
    rw [if_pos rfl, List.getElem_map, List.getElem_map]
    have hm : l[i].1 ∈ dots.take (k + 1) := by rw [e, et]; exact List.mem_append_right _ (by simp)
    unfold killAt
    rw [if_pos hm]
    split <;> rfl
  · rw [if_neg hij]
    simp only [List.getElem_map]
    have hne : l[j].1 ≠ dots[k] := fun h => hij (dn_at hl hi hj (e.trans h.symm))
    have hm : l[j].1 ∈ dots.take (k + 1) ↔ l[j].1 ∈ dots.take k := by
      rw [et, List.mem_append, List.mem_singleton]
      exact ⟨fun h => h.resolve_right hne, .inl⟩
    exact killAt_congr hm

set_option maxRecDepth 100000 in
set_option maxHeartbeats 4000000 in
theorem kill_prog (l : List Nt) (dots : List Dt) (a b : Option Addr) (c n : Nat) (w : World) (hf : ∀ x ∈ l, fitN x) (hd : ∀ x ∈ dots, fitD x) (hx : RowN w a l) (hy : RowD w b dots) (hna : a = none → c = 0) (hlx : l.length ≤ 1000000) (hly : dots.length ≤ 1000000) :
    Calls Tryz.prog 50 #[.slice a l.length c, .slice b dots.length n] w fun e w' => ∃ v, e = .returned (.tuple #[v, .int .i64 (killP l dots).2]) ∧ ON w' w.heap.size E v (killP l dots).1 ∧ Below w.heap.size w w' := by
  have HE : Hid (killP l dots = if (validS l && dots.all validR) = true then killS l dots else ([], 2)) := rfl
  have HV := Lib.hid (fun w h => validS_any l a c w h hlx)
  have HD := Lib.hid (fun w h => F.containsF dots b n 72 #[] (fun d => !validR d) w enters_noDot (ask_noDot w dots) h hly)
  rw [F.any_valid] at HD
  have HS : Hid (validS l = true → DN l) := fun h => dn_srt (validS_iff.1 h).2
  have HP := Lib.hid (fun w hs h => places_any l a c w hs hf h hlx)
  have HC := Lib.hid (fun w h => cloneN l a c w h hna hlx)
  have HX := Lib.hid hx
  have HY := Lib.hid hy
  have HF := Lib.hid hd
  have hli : (l.length : Int) ≤ 1000000 := by omega
  have hld : (dots.length : Int) ≤ 1000000 := by omega
  clear hf hd hx hy hna hlx hly
  generalize killP l dots = R at *
  generalize validS l = va at *
  generalize dots.all validR = vd at *
  go_enter Tryz.func50, Tryz.ntmps50
  go_wp2_with fail
  refine (HV.out _ HX.out).mono ?_
  rintro e w2 ⟨rfl, hb⟩
  have HB := Lib.hid hb
  clear hb
  rcases va with _ | _
  · go_wp2_with fail
    go_ret2
    rw [HE.out]
    exact ⟨_, rfl, ON.nil _ _ _, HB.out⟩
  · go_wp2_with fail
    refine (HD.out _ (HY.out.keep HB.out)).mono ?_
    rintro e w3 ⟨rfl, hb⟩
    replace HB := bel_tr HB hb
    clear hb
    rcases vd with _ | _
    · go_wp2_with fail
      go_ret2
      rw [HE.out]
      exact ⟨_, rfl, ON.nil _ _ _, HB.out⟩
    · have HN := Lib.hid (HS.out (by first | trivial | rfl))
      have HE2 : Hid (R = killS l dots) := by show _ = _; rw [HE.out]; rfl
      go_wp2_with fail
      refine (HP.out _ HN.out (HX.out.keep HB.out)).mono ?_
      rintro e w4 ⟨p, rfl, -, hm, hb⟩
      have HM := Lib.hid hm
      have hpl := hm.lt
      replace HB := bel_tr HB hb
      clear hb hm
      go_wp2_with fail
      refine (HC.out _ (HX.out.keep HB.out)).mono ?_
      rintro e w5 ⟨v, rfl, ho, hb⟩
      replace HM := Lib.hid (HM.out.keep hb)
      replace HO := Lib.hid (ho.mono (base' := w4.heap.size) fun k hk => (ho.lt k hk).1)
      have HB4 := Lib.hid HB.out.size
      have HPl := Lib.hid hpl
      have HB5 := Lib.hid hb.size
      replace HB := bel_tr HB hb
      clear hb ho
      obtain ⟨A, cv, rfl, -, -, -, hA⟩ := HO.out.row
      have HA : Hid (∀ x, A = some x → x = ⟨x.block, 0, none⟩) := fun x hx => (hA x hx).1
      have HO2 : Hid (ON w5 w4.heap.size E (.slice A l.length cv) (l.map (killAt (dots.take 0)))) := by
        have e : l.map (killAt (dots.take 0)) = l := by
          have : killAt (dots.take 0) = id := by funext x; unfold killAt; simp
          rw [this, List.map_id]
        rw [e]; exact HO.out
      clear hA HO
      go_wp2_with fail
      go_loopw [9, 10, 11, 25] (fun _ _ _ i wr => ∃ k : Nat, k ≤ dots.length ∧ i = .int .i64 (k : Int) ∧ Hid (Below w.heap.size w wr) ∧ Hid (w4.heap.size ≤ wr.heap.size) ∧ Hid (Dm elInt wr p 1000000 (idxG l)) ∧ Hid (p < w4.heap.size) ∧ Hid (ON wr w4.heap.size E (.slice A l.length cv) (l.map (killAt (dots.take k)))) ∧ Hid (∀ j (hj : j < dots.length), j < k → atS l dots[j] ≠ none)) (fun _ _ _ i _ => dots.length - (intOf i).toNat)
      case atStart => exact ⟨0, Nat.zero_le _, rfl, HB, HB5, HM, HPl, HO2, fun j _ h => by omega⟩
      case round =>
        obtain ⟨k, hk, rfl, hh, HB5, HM, HPl, HO, HV⟩ := hrel
        by_cases hlt : k < dots.length
        · have hi0 : (k : Int) < (dots.length : Int) := by omega
          obtain ⟨b1, o1, rfl, p0, p1⟩ := (HY.out.keep hh.out).get (Below.refl _ _) k hlt
          have HFq := Lib.hid (HF.out dots[k] (List.getElem_mem hlt))
          have HKs := Lib.hid (fun i hi e q hq => kill_step (k := k) (i := i) (q := q) HN.out hlt hi e hq)
          have HMe := Lib.hid (List.getElem_mem hlt)
          have HVk : Hid (atS l dots[k] ≠ none → ∀ j (hj : j < dots.length), j < k + 1 → atS l dots[j] ≠ none) := fun h j hj hjk => by
            by_cases e : j = k
            · subst e; exact h
            · exact HV.out j hj (by omega)
          obtain ⟨q, hq⟩ : ∃ q, q = dots[k] := ⟨_, rfl⟩
          rw [← hq] at p0 p1 HFq HKs HMe HVk
          clear hq
          have hb0 := bel_box wr (.cells #[.int .i64 q.1, .int .i64 q.2] 25)
          have HB1 := bel_tr hh hb0
          have HM1 := Lib.hid (HM.out.keep hb0)
          have HO1 := Lib.hid (HO.out.below hb0)
          have HS1 : Hid (w4.heap.size ≤ (wr.alloc (.cells #[.int .i64 q.1, .int .i64 q.2] 25)).heap.size) := Nat.le_trans HB5.out hb0.size
          clear hb0
          have hlk := HM1.out.look_ok uInt (zInt _) HFq.out
          have HI : Hid (∀ z, z = idxG l q → (z = none ∧ atS l q = none) ∨ ∃ i, ∃ hi : i < l.length, z = some (i : Int) ∧ l[i].1 = q) := fun z hz => by
            rcases h0 : idxG l q with _ | i
            · exact .inl ⟨hz.trans h0, idxG_none.1 h0⟩
            · obtain ⟨i, hi, e, h1, -⟩ := idxG_some h0
              exact .inr ⟨i, hi, by rw [hz, h0, e], h1⟩
          obtain ⟨z, hz⟩ : ∃ z, z = idxG l q := ⟨_, rfl⟩
          rw [← hz] at hlk
          obtain ⟨q1, q2⟩ := q
          obtain ⟨rfl, ha⟩ | ⟨i, hi, rfl, ha⟩ := HI.out z hz
          · have hlk2 : (Instr.lookup 99 (.map (some p)) (dv (q1, q2)) true).run Tryz.prog (wr.alloc (.cells #[.int .i64 q1, .int .i64 q2] 25)) = .ok (.tuple #[.int .i64 0, .bool false]) (wr.alloc (.cells #[.int .i64 q1, .int .i64 q2] 25)) := hlk
            have HCo := Lib.hid (kill_code (l := l) (q1, q2) HMe.out ha)
            clear hlk hz HI ha
            go_wp2_with fail
            go_ret2
            rw [HE2.out, HCo.out]
            exact ⟨_, rfl, ON.nil _ _ _, HB1.out⟩
          · have hlk2 : (Instr.lookup 99 (.map (some p)) (dv (q1, q2)) true).run Tryz.prog (wr.alloc (.cells #[.int .i64 q1, .int .i64 q2] 25)) = .ok (.tuple #[.int .i64 (i : Int), .bool true]) (wr.alloc (.cells #[.int .i64 q1, .int .i64 q2] 25)) := hlk
            have HVn := Lib.hid (HVk.out (by
              intro h
              exact at_none.1 h l[i] (List.getElem_mem hi) ha))
            have hi2 : (i : Int) < (l.length : Int) := by omega
            have HLi : Hid (i < (l.map (killAt (dots.take k))).length) := by show _ < _; simpa using hi
            have HKt := Lib.hid (fun q hq => HKs.out i hi ha q hq)
            clear hlk hz HI ha
            obtain ⟨g, rfl⟩ : ∃ g, A = some ⟨g, 0, none⟩ := by
              rcases A with _ | x
              · have := HO1.out.r
                have h0 := this.2.1
                simp at h0
                have h3 := HO1.out.row
                obtain ⟨a', c', e, hr, hn, -⟩ := h3
                simp only [Value.slice.injEq] at e
                have := (hn e.1.symm).2
                have : l = [] := by simpa using this
                subst this
                simp at hi
              · exact ⟨x.block, by rw [HA.out x rfl]⟩
            obtain ⟨n0, n1, n2, n3, n4, n5⟩ := HO1.out.na i HLi.out
            obtain ⟨t, ht⟩ : ∃ t, t = (l.map (killAt (dots.take k)))[i]'HLi.out := ⟨_, rfl⟩
            rw [← ht] at n0 n1 n2 n3 n4 n5
            have HKq := Lib.hid (HKt.out t ht)
            clear ht
            have HKi := Lib.hid (fun w => Nd.kill_any t w)
            obtain ⟨⟨t1, t2⟩, ⟨t3, t4⟩, t5, t6⟩ := t
            go_wp2_with fail
            refine (HKi.out _).mono ?_
            rintro e w7 ⟨rfl, hl⟩
            have hb := hl.bel
            clear hl n0 n1 n2 n3 n4 n5 hlk2 p0 p1
            replace HB1 := bel_tr HB1 hb
            replace HM1 := Lib.hid (HM1.out.keep hb)
            replace HO1 := Lib.hid (HO1.out.below hb)
            replace HS1 := Lib.hid (Nat.le_trans HS1.out hb.size)
            clear hb
            obtain ⟨n0, n1, n2, n3, n4, n5⟩ := HO1.out.na i HLi.out
            obtain ⟨s, hs⟩ : ∃ s, s = (l.map (killAt (dots.take k)))[i]'HLi.out := ⟨_, rfl⟩
            rw [← hs] at n0 n1 n2 n3 n4 n5
            clear hs
            have f0 := HO1.out.free (i * 6)
            have f1 := HO1.out.free (i * 6 + 1)
            have f2 := HO1.out.free (i * 6 + 2)
            have f3 := HO1.out.free (i * 6 + 3)
            have f4 := HO1.out.free (i * 6 + 4)
            have f5 := HO1.out.free (i * 6 + 5)
            have HO3 := Lib.hid (HO1.out.put HLi.out (killN ((t1, t2), (t3, t4), t5, t6)))
            rw [HKq.out] at HO3
            have HGl := Lib.hid (HO1.out.lt g rfl).1
            have HB3 := Lib.hid (putAt_below HB1.out (Nat.le_trans HB4.out HGl.out) (i * 6) (killN ((t1, t2), (t3, t4), t5, t6)))
            have HM3 := Lib.hid (HM1.out.kept (putAt_gb w7 g (i * 6) (killN ((t1, t2), (t3, t4), t5, t6))) (by have := HPl.out; have := HGl.out; simp; omega))
            have HS3 := Lib.hid (Nat.le_trans HS1.out (putAt_gb w7 g (i * 6) (killN ((t1, t2), (t3, t4), t5, t6))).size)
            clear HKt HKq HKi HVk HKs
            go_wp2_with fail
            go_roundw
            case rel => exact ⟨k + 1, by omega, by go_num, HB3, HS3, HM3, HPl, HO3, HVn⟩
            case measure => simp [intOf]; omega
        · obtain rfl : k = dots.length := by omega
          have hend : ¬ (dots.length : Int) < (dots.length : Int) := by omega
          have HKa : Hid (killS l dots = (l.map (killAt dots), 0)) := kill_all (fun d hd => by
            obtain ⟨j, hj, rfl⟩ := List.mem_iff_getElem.1 hd
            exact HV.out j hj hj)
          rw [List.take_length] at HO
          go_wp2_with fail
          go_ret2
          rw [HE2.out, HKa.out]
          exact ⟨_, rfl, HO.out.mono (fun k hk => Nat.le_trans HB4.out (HO.out.lt k hk).1), hh.out⟩
end Go.Proofs.YtkcbekebleodaaaGreat.Qs
end
