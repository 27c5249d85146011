/-
  The reference's map: Set.
-/
import Derived.Test.YtmmcnpcijeahcaaJRef4
namespace Go.Proofs.Ytmmcnpcijeahcaa.J
set_option linter.unusedVariables false
open Go.RowKit V Go.Shelf
attribute [local irreducible] Sch.heldN Sch.stepV Sch.stepE

theorem load_bool {w : World} {b o : Nat} {z : Bool} (h : w.cell? ⟨b, o, none⟩ = some (.bool z)) : (Instr.loadAt 4 (.pointer (some ⟨b, o, none⟩))).run Try.prog w = .ok (.bool z) w := by
  go_simp
theorem Mb.rb {w : World} {B n c : Nat} {d : Bool} {a : Option Addr} (h : Mb w B d (.slice a n c)) : Rb w B d a n c := ⟨h.c0, h.c1⟩
/-- What a slice of a row from an index on is. -/
theorem drop_row {w : World} {a : Option Addr} {l : List Pr} {c r : Nat} (h : RowP w a l) (hc : l.length ≤ c) (hn : a = none → c = 0) (hr : r ≤ l.length) :
    ∃ a', (if c = r then a else Option.map (fun x => x.add (r * 2)) a) = a' ∧ RowP w a' (l.drop r) ∧ (a' = none → c - r = 0) ∧ ∀ x, a' = some x → ∃ y, a = some y ∧ y.block = x.block := by
  refine ⟨_, rfl, ?_, ?_, ?_⟩
  · by_cases hlt : r < l.length
    · rw [if_neg (by omega)]
      rcases h with rfl | ⟨b, o, rfl, hh⟩
      · simp at hlt
      · rw [show Option.map (fun x => x.add (r * 2)) (some (⟨b, o, none⟩ : Addr)) = some ⟨b, o + r * 2, none⟩ by simp [addr_add]]
        exact RowP.drop (.inr ⟨b, o, rfl, hh⟩) r hr
    · exact .inl (List.drop_eq_nil_of_le (by omega))
  · intro h'
    by_cases e : c = r
    · omega
    · rw [if_neg e] at h'
      rcases a with _ | a
      · have := hn rfl; omega
      · cases h'
  · intro x h'
    by_cases e : c = r
    · rw [if_pos e] at h'; exact ⟨x, h', rfl⟩
    · rw [if_neg e] at h'
      rcases a with _ | y
      · cases h'
      · simp only [Option.map_some, Option.some.injEq] at h'
        refine ⟨y, rfl, ?_⟩
        rw [← h']
        unfold Addr.add
        split <;> rfl

set_option maxRecDepth 100000 in
set_option maxHeartbeats 2000000 in
theorem set_ref (d : Bool) (L : List Pr) (a : Option Addr) (c : Nat) (k : Int) (u : ByteArray) (w : World) (hx : RowP w a L) (hl : L.length ≤ 1000000) :
    Calls Try.prog 13 #[mv d a L.length c, .int .i64 k, .string u] w fun e w' => ∃ v, e = .returned (.agg #[.bool d, v]) ∧ OP w' w.heap.size E v (setR d L k u) ∧ Below w.heap.size w w' := by
  have hli : (L.length : Int) ≤ 1000000 := by omega
  have hb := bel_box w (.cells #[.bool d, .slice a L.length c] 29)
  have hm := mb_new w d (.slice a L.length c)
  have hz : (w.alloc (.cells #[.bool d, .slice a L.length c] 29)).heap.size = w.heap.size + 1 := by simp
  have hb2 := bel_box (w.alloc (.cells #[.bool d, .slice a L.length c] 29)) (.cells #[.bool false, .slice none 0 0] 29)
  have hm2 := mb_new (w.alloc (.cells #[.bool d, .slice a L.length c] 29)) false (.slice none 0 0)
  rw [hz] at hm2
  have HB := Lib.hid (bel_tr hb hb2)
  have HM1 := Lib.hid (hm.keep hb2)
  have HM2 := Lib.hid hm2
  have HX := Lib.hid (hx.keep HB.out)
  have HZ : Hid (((w.alloc (.cells #[.bool d, .slice a L.length c] 29)).alloc (.cells #[.bool false, .slice none 0 0] 29)).heap.size = w.heap.size + 2) := by show _ = _; simp
  have HC := Lib.hid (delete_ref d L a c k _ HX.out hl)
  have HDl : Hid ((delR L k).length ≤ 1000000) := by have := delR_len L k; show _ ≤ _; omega
  have HSet : Hid (setR d L k u = (delR L k).take (rank d (delR L k) k) ++ [(k, u)] ++ (delR L k).drop (rank d (delR L k) k)) := by show _ = _; unfold setR insR; simp
  have HRl : Hid (rank d (delR L k) k ≤ (delR L k).length) := rank_le _ _ _
  have HRk := Lib.hid (fun w' av cv (h : RowP w' av (delR L k)) => rank_ref d (delR L k) av cv k w' h HDl.out)
  clear hx hb hm hz hb2 hm2
  generalize setR d L k u = Out at *
  generalize rank d (delR L k) k = r at *
  generalize delR L k = D at *
  go_enter Try.func13, Try.ntmps13
  go_wp2_with fail
  refine HC.out.mono ?_
  rintro e w2 ⟨v, rfl, ho, hb⟩
  generalize (w.alloc (.cells #[.bool d, .slice a L.length c] 29)).alloc (.cells #[.bool false, .slice none 0 0] 29) = w1 at *
  obtain ⟨av, cv, rfl, -⟩ := ho.row
  have HO := Lib.hid ho
  replace HM1 := Lib.hid (HM1.out.keep hb)
  replace HM2 := Lib.hid (HM2.out.keep hb)
  replace HB := Lib.hid (bel_tr HB.out hb)
  clear hb ho HC
  have m0 := HM1.out.c0
  have m1 := HM1.out.c1
  have f0 := HM1.out.free 0
  have f1 := HM1.out.free 1
  have HG := Lib.hid (gb_put2 w2 w.heap.size (.bool d) (.slice av D.length cv))
  have hM1' := HM1.out.put d (.slice av D.length cv)
  have hM2' := HM2.out.gb HG.out (by simp)
  have hB' := below_gb HB.out HG.out HB.out.size (by omega)
  have hO' := HO.out.keep HG.out (.inr fun e => by have := (HO.out.lt _ e).1; have := HZ.out; omega)
  clear HG
  replace HM1 := Lib.hid hM1'
  replace HM2 := Lib.hid hM2'
  replace HB := Lib.hid hB'
  replace HO := Lib.hid hO'
  clear hM1' hM2' hB' hO'
  have HC := Lib.hid (HRk.out _ av cv HO.out.r.1)
  go_wp2_with fail
  refine HC.out.mono ?_
  rintro e w4 ⟨rfl, hb⟩
  generalize (w2.setCell ⟨w.heap.size, 0, none⟩ (.bool d)).setCell ⟨w.heap.size, 1, none⟩ (.slice av D.length cv) = w3 at *
  replace HM1 := Lib.hid (HM1.out.keep hb)
  replace HM2 := Lib.hid (HM2.out.keep hb)
  replace HO := Lib.hid (HO.out.below hb)
  replace HB := Lib.hid (bel_tr HB.out hb)
  clear hb HC m0 m1 f0 f1
  have hcv : D.length ≤ cv := HO.out.r.2.2.1
  have hrl := HRl.out
  have hdl := HDl.out
  have hri : (r : Int) ≤ (D.length : Int) := by omega
  have hrc : (r : Int) ≤ (cv : Int) := by omega
  have hr0 : ¬ (r : Int) < 0 := by omega
  have hdc : (D.length : Int) ≤ (cv : Int) := by omega
  go_wp2_with fail
  have hb0 : Below w4.heap.size w4 w4.drew := (Below.refl _ _).drew
  replace HM1 := Lib.hid (HM1.out.keep hb0)
  replace HM2 := Lib.hid (HM2.out.keep hb0)
  replace HO := Lib.hid (HO.out.below hb0)
  replace HB := Lib.hid (bel_tr HB.out hb0)
  clear hb0
  have A0 := Lib.hid (fun w' (h : Rb w' w.heap.size d av D.length cv) => load_bool (w := w') h.1)
  have A1 := Lib.hid (fun w' (h : Rb w' w.heap.size d av D.length cv) => load_row (w := w') h.2)
  have HS := Lib.hid HM1.out.rb
  refine Sch.wp_region_tn (fun w' => Rb w' w.heap.size d av D.length cv) (.val 0 (.val 1 (.val 2 (.val 3 (.val 4 (.val 5 (.val 7 (.val 8 (.val 9 (.val 12 (.val 13 (.val 14 (.val 15 (.two 6 (.one 10 (.one 11 (.one 16 (.val 17 (.one 18 .done))))) 10 (.one 6 (.one 11 (.one 16 (.val 17 (.one 18 .done))))))))))))))))))) (by kernel_rfl) (by kernel_rfl) HS.out ?_
  repeat (first
    | (refine Sch.tn_q rfl rfl rfl (fun K hK => ?_); go_big_quiet_op; (first | refine hK _ ?_ | refine ⟨_, fun _ _ => rfl, hK _ ?_⟩); clear hK K)
    | (refine Sch.tn_chk _ _ _ rfl rfl rfl rfl rfl ?_; simp only [Act.put, List.setIfInBounds_toArray, List.set_cons_zero, List.set_cons_succ])
    | (refine Sch.tn_load _ _ _ _ _ rfl rfl rfl rfl (by first | exact A0.out | exact A1.out) rfl ?_; simp only [Act.put, List.setIfInBounds_toArray, List.set_cons_zero, List.set_cons_succ]))
  generalize w4.drew = w5 at *
  have HT : Hid ((D.take r).length = r) := by show _ = _; rw [List.length_take]; omega
  have HDr : Hid ((D.drop r).length = D.length - r) := by show _ = _; rw [List.length_drop]
  have HZ5 : Hid (w.heap.size + 2 ≤ w5.heap.size) := by have := HM2.out.lt; show _ ≤ _; omega
  have hrw := HO.out.row
  obtain ⟨a', c', hac, -, -, -, hblk⟩ := hrw
  simp only [Value.slice.injEq] at hac
  obtain ⟨rfl, -, rfl⟩ := hac
  have HBk : Hid (∀ x, av = some x → x.block < w5.heap.size) := fun x e => (hblk x e).2.2.2
  obtain ⟨aw, haw, hdrow, hnilw, hblkw⟩ := drop_row HO.out.r.1 hcv HO.out.r.2.2.2 hrl
  rw [haw]
  have HNil := Lib.hid HO.out.r.2.2.2
  have HNilW := Lib.hid hnilw
  have HBw : Hid (∀ x, aw = some x → x.block < w5.heap.size) := fun x e => by obtain ⟨y, e', h⟩ := hblkw x e; rw [← h]; exact HBk.out y e'
  have HTk := Lib.hid (HO.out.r.1.take r)
  have HDk := Lib.hid hdrow
  clear haw hdrow hnilw hblkw hblk HO HRk HX HZ HM1
  refine Sch.tn_two ?_ ?_
  · refine Sch.tn_e rfl rfl (fun K hK => ?_)
    refine wp_appP _ _ _ rfl Try.underlying27 infoP _ [] rfl (OP.nil w5 w5.heap.size E) av (D.take r) cv (by rw [HT.out]; rfl) HTk.out HNil.out (by rw [HT.out]; simp; omega) (by simp) ?_
    intro v1 w6 ho1 hg1
    have hg1' : World.grownBy _ w6 none := hg1
    rw [List.nil_append] at ho1
    replace HS := Lib.hid (HS.out.gbo hg1' (by simp))
    replace HM2 := Lib.hid (HM2.out.gb hg1' (by simp))
    replace HDk := Lib.hid (HDk.out.gb hg1' (by simp))
    replace HB := Lib.hid (HB.out.grown hg1' HB.out.size fun x hx => by cases hx)
    have HO1 := Lib.hid ho1
    have HZ6 : Hid (w5.heap.size ≤ w6.heap.size) := by have := hg1'.size; (try simp at this); show _ ≤ _; omega
    clear ho1 hg1 hg1' HTk
    refine hK _ _ HS.out ?_
    clear hK K
    simp only [Act.put, List.setIfInBounds_toArray, List.set_cons_zero, List.set_cons_succ]
    refine Sch.tn_e rfl rfl (fun K hK => ?_)
    go_wp2_with fail
    have hb := bel_box w6 (.cells #[.int .i64 k, .string u] E)
    have HLit := Lib.hid (lit_one w6 (k, u) E)
    replace HS := Lib.hid (HS.out.keep hb)
    replace HM2 := Lib.hid (HM2.out.keep hb)
    replace HDk := Lib.hid (HDk.out.keep hb)
    replace HO1 := Lib.hid (HO1.out.below hb)
    replace HZ6 := Lib.hid (Nat.le_trans HZ6.out hb.size)
    replace HB := Lib.hid (bel_tr HB.out hb)
    refine hK _ _ HS.out ?_
    clear hK K
    refine Sch.tn_e rfl rfl (fun K hK => ?_)
    refine wp_appP _ _ _ rfl Try.underlying27 infoP _ _ rfl HO1.out (some ⟨w6.heap.size, 0, none⟩) [(k, u)] 1 rfl HLit.out (fun h => by cases h) (by rw [HT.out]; simp; omega) HZ6.out ?_
    intro v2 w7 ho2 hg2
    have HOw := Lib.hid HO1.out.lt
    have hne : ∀ x, x < w5.heap.size → some x ≠ v1.ownBlock := fun x hx e => by have := (HOw.out x e.symm).1; omega
    have hz5 := HZ5.out
    replace HS := Lib.hid (HS.out.gbo hg2 (hne _ (by omega)))
    replace HM2 := Lib.hid (HM2.out.gb hg2 (hne _ (by omega)))
    replace HDk := Lib.hid (HDk.out.gb hg2 (fun b o e => hne _ (HBw.out _ e)))
    replace HB := Lib.hid (HB.out.grown hg2 HB.out.size fun x hx => by have := (HOw.out x hx).1; omega)
    have HO2 := Lib.hid ho2
    have HZ7 : Hid (w5.heap.size ≤ w7.heap.size) := Nat.le_trans HZ6.out hg2.size
    clear ho2 hg2 hne HOw HO1 HLit HZ6
    refine hK _ _ HS.out ?_
    clear hK K
    simp only [Act.put, List.setIfInBounds_toArray, List.set_cons_zero, List.set_cons_succ]
    refine Sch.tn_e rfl rfl (fun K hK => ?_)
    refine wp_appP _ _ _ rfl Try.underlying27 infoP _ _ rfl HO2.out aw (D.drop r) (cv - r) (by rw [HDr.out]; rfl) HDk.out HNilW.out (by rw [HDr.out, List.length_append, HT.out]; simp; omega) (by have := HZ7.out; omega) ?_
    intro v3 w8 ho3 hg3
    have HOw := Lib.hid HO2.out.lt
    have hne : ∀ x, x < w5.heap.size → some x ≠ v2.ownBlock := fun x hx e => by have := (HOw.out x e.symm).1; omega
    replace HS := Lib.hid (HS.out.gbo hg3 (hne _ (by omega)))
    replace HM2 := Lib.hid (HM2.out.gb hg3 (hne _ (by omega)))
    replace HB := Lib.hid (HB.out.grown hg3 HB.out.size fun x hx => by have := (HOw.out x hx).1; omega)
    rw [← HSet.out] at ho3
    obtain ⟨a3, c3, rfl, -⟩ := ho3.row
    have HO3 := Lib.hid ho3
    clear ho3 hg3 hne HOw HO2 HDk HZ7
    generalize Out.length = n3 at *
    refine hK _ _ HS.out ?_
    clear hK K
    simp only [Act.put, List.setIfInBounds_toArray, List.set_cons_zero, List.set_cons_succ]
    repeat (first
      | (refine Sch.tn_q rfl rfl rfl (fun K hK => ?_); go_big_quiet_op; (first | refine hK _ ?_ | refine ⟨_, fun _ _ => rfl, hK _ ?_⟩); clear hK K)
      | (refine Sch.tn_chk _ _ _ rfl rfl rfl rfl rfl ?_; simp only [Act.put, List.setIfInBounds_toArray, List.set_cons_zero, List.set_cons_succ]))
    have m0 := HM2.out.c0
    have m1 := HM2.out.c1
    have f0 := HM2.out.free 0
    have f1 := HM2.out.free 1
    refine Sch.tn_e rfl rfl (fun K hK => ?_)
    go_wp2_with fail
    have HG := Lib.hid (gb_put2 w8 (w.heap.size + 1) (.bool d) (.slice a3 n3 c3))
    refine hK _ _ (HS.out.gbo HG.out (by simp)) ?_
    clear hK K
    refine Sch.tn_n ?_
    go_wp2_with fail
    (try simp only [Exit.inBlock, Exit.then])
    refine bodyPost_ret (v := mv d a3 n3 c3) (ret_map rfl (HM2.out.put d (.slice a3 n3 c3)) rfl) rfl ?_
    refine ⟨_, rfl, ?_, below_gb HB.out HG.out HB.out.size (by omega)⟩
    have h := HO3.out.keep HG.out (.inr fun e => by have := (HO3.out.lt _ e).1; omega)
    exact h.mono fun x hx => by have := (h.lt x hx).1; omega
  · refine Sch.tn_e rfl rfl (fun K hK => ?_)
    go_wp2_with fail
    have hb := bel_box w5 (.cells #[.int .i64 k, .string u] E)
    have HLit := Lib.hid (lit_one w5 (k, u) E)
    replace HS := Lib.hid (HS.out.keep hb)
    replace HM2 := Lib.hid (HM2.out.keep hb)
    replace HDk := Lib.hid (HDk.out.keep hb)
    replace HTk := Lib.hid (HTk.out.keep hb)
    replace HB := Lib.hid (bel_tr HB.out hb)
    refine hK _ _ HS.out ?_
    clear hK K
    refine Sch.tn_e rfl rfl (fun K hK => ?_)
    refine wp_appP _ _ _ rfl Try.underlying27 infoP _ [] rfl (OP.nil _ w5.heap.size E) av (D.take r) cv (by rw [HT.out]; rfl) HTk.out HNil.out (by rw [HT.out]; simp; omega) (by simp) ?_
    intro v1 w6 ho1 hg1
    have hg1' : World.grownBy _ w6 none := hg1
    rw [List.nil_append] at ho1
    replace HS := Lib.hid (HS.out.gbo hg1' (by simp))
    replace HM2 := Lib.hid (HM2.out.gb hg1' (by simp))
    replace HDk := Lib.hid (HDk.out.gb hg1' (by simp))
    replace HLit := Lib.hid (HLit.out.gb hg1' (by simp))
    replace HB := Lib.hid (HB.out.grown hg1' HB.out.size fun x hx => by cases hx)
    have HO1 := Lib.hid ho1
    have HZ6 : Hid (w5.heap.size ≤ w6.heap.size) := by have := hg1'.size; (try simp at this); show _ ≤ _; omega
    clear ho1 hg1 hg1' HTk
    refine hK _ _ HS.out ?_
    clear hK K
    simp only [Act.put, List.setIfInBounds_toArray, List.set_cons_zero, List.set_cons_succ]
    refine Sch.tn_e rfl rfl (fun K hK => ?_)
    refine wp_appP _ _ _ rfl Try.underlying27 infoP _ _ rfl HO1.out (some ⟨w5.heap.size, 0, none⟩) [(k, u)] 1 rfl HLit.out (fun h => by cases h) (by rw [HT.out]; simp; omega) HZ6.out ?_
    intro v2 w7 ho2 hg2
    have HOw := Lib.hid HO1.out.lt
    have hne : ∀ x, x < w5.heap.size → some x ≠ v1.ownBlock := fun x hx e => by have := (HOw.out x e.symm).1; omega
    have hz5 := HZ5.out
    replace HS := Lib.hid (HS.out.gbo hg2 (hne _ (by omega)))
    replace HM2 := Lib.hid (HM2.out.gb hg2 (hne _ (by omega)))
    replace HDk := Lib.hid (HDk.out.gb hg2 (fun b o e => hne _ (HBw.out _ e)))
    replace HB := Lib.hid (HB.out.grown hg2 HB.out.size fun x hx => by have := (HOw.out x hx).1; omega)
    have HO2 := Lib.hid ho2
    have HZ7 : Hid (w5.heap.size ≤ w7.heap.size) := Nat.le_trans HZ6.out hg2.size
    clear ho2 hg2 hne HOw HO1 HLit HZ6
    refine hK _ _ HS.out ?_
    clear hK K
    simp only [Act.put, List.setIfInBounds_toArray, List.set_cons_zero, List.set_cons_succ]
    refine Sch.tn_e rfl rfl (fun K hK => ?_)
    refine wp_appP _ _ _ rfl Try.underlying27 infoP _ _ rfl HO2.out aw (D.drop r) (cv - r) (by rw [HDr.out]; rfl) HDk.out HNilW.out (by rw [HDr.out, List.length_append, HT.out]; simp; omega) (by have := HZ7.out; omega) ?_
    intro v3 w8 ho3 hg3
    have HOw := Lib.hid HO2.out.lt
    have hne : ∀ x, x < w5.heap.size → some x ≠ v2.ownBlock := fun x hx e => by have := (HOw.out x e.symm).1; omega
    replace HS := Lib.hid (HS.out.gbo hg3 (hne _ (by omega)))
    replace HM2 := Lib.hid (HM2.out.gb hg3 (hne _ (by omega)))
    replace HB := Lib.hid (HB.out.grown hg3 HB.out.size fun x hx => by have := (HOw.out x hx).1; omega)
    rw [← HSet.out] at ho3
    obtain ⟨a3, c3, rfl, -⟩ := ho3.row
    have HO3 := Lib.hid ho3
    clear ho3 hg3 hne HOw HO2 HDk HZ7
    generalize Out.length = n3 at *
    refine hK _ _ HS.out ?_
    clear hK K
    simp only [Act.put, List.setIfInBounds_toArray, List.set_cons_zero, List.set_cons_succ]
    repeat (first
      | (refine Sch.tn_q rfl rfl rfl (fun K hK => ?_); go_big_quiet_op; (first | refine hK _ ?_ | refine ⟨_, fun _ _ => rfl, hK _ ?_⟩); clear hK K)
      | (refine Sch.tn_chk _ _ _ rfl rfl rfl rfl rfl ?_; simp only [Act.put, List.setIfInBounds_toArray, List.set_cons_zero, List.set_cons_succ]))
    have m0 := HM2.out.c0
    have m1 := HM2.out.c1
    have f0 := HM2.out.free 0
    have f1 := HM2.out.free 1
    refine Sch.tn_e rfl rfl (fun K hK => ?_)
    go_wp2_with fail
    have HG := Lib.hid (gb_put2 w8 (w.heap.size + 1) (.bool d) (.slice a3 n3 c3))
    refine hK _ _ (HS.out.gbo HG.out (by simp)) ?_
    clear hK K
    refine Sch.tn_n ?_
    go_wp2_with fail
    (try simp only [Exit.inBlock, Exit.then])
    refine bodyPost_ret (v := mv d a3 n3 c3) (ret_map rfl (HM2.out.put d (.slice a3 n3 c3)) rfl) rfl ?_
    refine ⟨_, rfl, ?_, below_gb HB.out HG.out HB.out.size (by omega)⟩
    have h := HO3.out.keep HG.out (.inr fun e => by have := (HO3.out.lt _ e).1; omega)
    exact h.mono fun x hx => by have := (h.lt x hx).1; omega
end Go.Proofs.Ytmmcnpcijeahcaa.J
