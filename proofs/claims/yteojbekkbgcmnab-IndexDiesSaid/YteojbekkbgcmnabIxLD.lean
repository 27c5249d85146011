/-
  The law IndexDies.
-/
import Derived.Test.YteojbekkbgcmnabIxKn
import Derived.Test.YteojbekkbgcmnabIxR
import Derived.Test.YteojbekkbgcmnabMQAsk
import Derived.Test.YteojbekkbgcmnabIxApp
namespace Go.Proofs.Yteojbekkbgcmnab.Un
set_option linter.unusedVariables false
open Go.RowKit V Go.Shelf Go.Sort D Nd Qs Wk Ix
attribute [local irreducible] Sch.heldN Sch.stepV Sch.stepE

/-- A part of a row of runes. -/
theorem cut_loR (a : Option Addr) (len cap n : Nat) (hn : n ≤ cap) : ∀ wx : World,
    (Instr.slice 30 (.slice a len cap) none (some (.int .i64 (n : Int))) none).run Try.prog wx = .ok (.slice a n cap) wx := by
  obtain ⟨i, hi, hz0, hz1, hz2⟩ := G.info_of infoR
  intro wx
  have h1 : (Instr.sliceBound (.int .i64 (n : Int)) cap .sliceAcap).run Try.prog wx = .ok n wx := by
    rw [run_sliceBound _ _ _ _ _ (by omega) (by omega)]; rfl
  have h0 : (⟨0, 0, none⟩ : Addr).add 0 = ⟨0, 0, none⟩ := rfl
  by_cases hc : cap = 0
  · rw [hc] at h1
    simp [Instr.slice, run_underlying Try.underlying30, Instr.sliceBounds, h1, Result.andThen, sizeOf, typeInfo, hi, hc]
  · have : a.map (fun x => x.add 0) = a := by
      rcases a with _ | ⟨b, o, s⟩
      · rfl
      · simp [Addr.add]
    simp [Instr.slice, run_underlying Try.underlying30, Instr.sliceBounds, h1, Result.andThen, sizeOf, typeInfo, hi, hc, this]
def offR (a : Option Addr) (cap m : Nat) : Option Addr := if cap = m then a else a.map (·.add (m * 1))
theorem cut_hiR (a : Option Addr) (len cap m k : Nat) (hk : len = m + k) (hlc : len ≤ cap) : ∀ wx : World,
    (Instr.slice 30 (.slice a len cap) (some (.int .i64 (m : Int))) none none).run Try.prog wx = .ok (.slice (offR a cap m) k (cap - m)) wx := by
  obtain ⟨i, hi, hz0, hz1, hz2⟩ := G.info_of infoR
  intro wx
  have h2 : (Instr.sliceBound (.int .i64 (m : Int)) len .sliceB).run Try.prog wx = .ok m wx := by
    rw [run_sliceBound _ _ _ _ _ (by omega) (by omega)]; rfl
  have e : len - m = k := by omega
  simp [Instr.slice, run_underlying Try.underlying30, Instr.sliceBounds, h2, Result.andThen, sizeOf, typeInfo, hi, hz1, e, offR]
theorem rowR_take {w : World} {a : Option Addr} {l : List Int} (h : G.RowI .i32 w a l) (n : Nat) : G.RowI .i32 w a (l.take n) := by
  rcases h with rfl | ⟨b, o, rfl, h⟩
  · exact .inl (by simp)
  · refine .inr ⟨b, o, rfl, fun i hi => ?_⟩
    rw [List.length_take] at hi
    rw [List.getElem_take]
    exact h i (by omega)
theorem offR_row {w : World} {a : Option Addr} {l : List Int} (h : G.RowI .i32 w a l) (cap m : Nat) (hlc : l.length ≤ cap) (hm : m ≤ l.length) : G.RowI .i32 w (offR a cap m) (l.drop m) := by
  unfold offR
  split
  · left
    rw [List.drop_eq_nil_iff]; omega
  · rcases h with rfl | ⟨b, o, rfl, hc⟩
    · exact .inl (by simp)
    · have e : (⟨b, o, none⟩ : Addr).add (m * 1) = ⟨b, o + m, none⟩ := by unfold Addr.add; split <;> simp_all
      rw [Option.map_some, e]
      refine .inr ⟨b, o + m, rfl, fun i hi => ?_⟩
      rw [List.length_drop] at hi
      rw [List.getElem_drop, Nat.add_assoc]
      exact hc (m + i) (by omega)
theorem offR_none {a : Option Addr} {cap m : Nat} (h : offR a cap m = none) : a = none := by
  unfold offR at h
  split at h
  · exact h
  · simpa using h
set_option maxRecDepth 100000 in
set_option maxHeartbeats 16000000 in
theorem dies_law (l : List Nt) (t : Nat) (a : Option Addr) (c : Nat) (w : World) (ht : t ≤ 255) (hi : ∀ x ∈ l, i32 x.2.2.2) (hfn : ∀ x ∈ l, fitN x) (hx : RowN w a l) (hna : a = none → c = 0) :
    Calls Try.prog 6 #[.slice a l.length c, .int .u8 (t : Int)] w fun e w' => e = .returned (.bool true) ∧ Below w.heap.size w w' := by
  have HB := Lib.hid (Below.refl w.heap.size w)
  by_cases hbig : 40 < l.length
  · have hg : (40 : Int) < (l.length : Int) := by omega
    have hgd : decide ((40 : Int) < (l.length : Int)) = true := decide_eq_true hg
    go_enter Try.func6, Try.ntmps6
    go_wp2_with fail
    refine (knownI_any _).mono ?_
    rintro e w99 ⟨rfl, hb⟩
    replace HB := Lib.hid (bel_tr HB.out hb)
    clear hb
    go_wp2_with fail
    go_ret
    exact ⟨rfl, HB.out⟩
  have hle : l.length ≤ 40 := by omega
  have hng : ¬ (40 : Int) < (l.length : Int) := by omega
  have hngd : decide ((40 : Int) < (l.length : Int)) = false := decide_eq_false hng
  have HX := Lib.hid hx
  have HLe := Lib.hid hle
  have HVl := Lib.hid (fun w h => validS_ref l a c w hi h (by omega))
  rcases hv : validS l with _ | _
  · rw [hv] at HVl
    clear hv hbig hi hfn hx hle hna
    go_enter Try.func6, Try.ntmps6
    go_wp2_with fail
    refine (HVl.out _ HX.out).mono ?_
    rintro e w11 ⟨rfl, hb⟩
    replace HB := Lib.hid (bel_tr HB.out hb)
    replace HX := Lib.hid (HX.out.keep hb)
    clear hb
    go_wp2_with fail
    refine (knownI_any _).mono ?_
    rintro e w99 ⟨rfl, hb⟩
    replace HB := Lib.hid (bel_tr HB.out hb)
    clear hb
    go_wp2_with fail
    go_ret
    exact ⟨rfl, HB.out⟩
  rw [hv] at HVl
  have HRr := Lib.hid (fun w h => runesR_ref l hv (by omega) a c w h)
  have HRl : Hid ((runesS l).length ≤ 40) := by have := vis_len hv; show _ ≤ _; rw [runes_len]; omega
  have HH := Lib.hid (fun (h0 : (runesS l).length = 0) w h => has_true l 0 0 a c w h (by omega) (by rw [len_yes hv, h0]; rfl))
  have HAt := Lib.hid (fun i w h => at_prog l i a c w h (by omega))
  have HAe := Lib.hid (fun (k : Nat) (h : k < (visS l).length) => at_in hv (k := k) h)
  have HKp := Lib.hid (fun ds b n w hd h h2 hl => kill_prog l ds a b c n w hfn hd h h2 hna (by omega) hl)
  have HDk := Lib.hid (fun k hk => dies_kill hv k hk)
  have HDr := Lib.hid (fun k hk => dies_runes hv k hk)
  have HDo := Lib.hid (fun k hk => dies_of hv k hk)
  have HDb := Lib.hid (fun k hk => dies_bef hv k hk)
  have HDg := Lib.hid (fun k hk => (vis_good hv k hk).2.1)
  have HVn := Lib.hid (runes_len l)
  clear hv hbig hi hfn hx hle hna
  generalize hrs : runesS l = rs at *
  generalize visS l = V at *
  clear hrs
  go_enter Try.func6, Try.ntmps6
  go_wp2_with fail
  refine (HVl.out _ HX.out).mono ?_
  rintro e w12 ⟨rfl, hb⟩
  replace HB := Lib.hid (bel_tr HB.out hb)
  replace HX := Lib.hid (HX.out.keep hb)
  clear hb
  go_wp2_with fail
  refine (HRr.out _ HX.out).mono ?_
  rintro e w2 ⟨v2, rfl, ho, hb⟩
  obtain ⟨a2, c2, rfl, hr2, hn2, hc2, -⟩ := G.OI.row2 ho
  have HI := Lib.hid hr2
  have HIn : Hid (a2 = none → c2 = 0) := fun h => (hn2 h).1
  have HIc := Lib.hid hc2
  replace HB := Lib.hid (bel_tr HB.out hb)
  replace HX := Lib.hid (HX.out.keep hb)
  clear ho hb hr2 hn2 hc2 HRr HVl
  have hrl : (rs.length : Int) ≤ 40 := by have := HRl.out; omega
  by_cases h0 : rs.length = 0
  · have h0i : (rs.length : Int) = 0 := by omega
    have HH0 := Lib.hid (HH.out h0)
    have h0d : ((rs.length : Int) == 0) = true := by rw [h0i]; rfl
    clear h0
    go_wp2_with fail
    refine (HH0.out _ HX.out).mono ?_
    rintro e w13 ⟨rfl, hb⟩
    replace HB := Lib.hid (bel_tr HB.out hb)
    clear hb
    go_wp2_with fail
    refine (knownI_any _).mono ?_
    rintro e w99 ⟨rfl, hb⟩
    replace HB := Lib.hid (bel_tr HB.out hb)
    clear hb
    go_wp2_with fail
    go_ret
    exact ⟨rfl, HB.out⟩
  have h0p : 0 < rs.length := by omega
  obtain ⟨k, hk⟩ : ∃ k, k = t % rs.length := ⟨_, rfl⟩
  have hkl : k < rs.length := by rw [hk]; exact Nat.mod_lt _ h0p
  have htm : ((t : Int)).tmod (rs.length : Int) = (k : Int) := by rw [hk]; rfl
  have hmd : ((t : Int)) % (rs.length : Int) = (k : Int) := by rw [hk]; rfl
  have hcv : IntKind.i64.wrap (t : Int) = t := wrap_nat (by omega)
  have hcv2 : (t : Int) % 256 = t := by omega
  have hr0 : IntKind.i64.wrap (k : Int) = k := wrap_nat (by omega)
  have hne0 : ¬ (rs.length : Int) = 0 := by omega
  have hne1 : decide ((rs.length : Int) = 0) = false := decide_eq_false hne0
  have hneb : ((rs.length : Int) == 0) = false := beq_false_of_ne hne0
  have hkb : (k : Int) ≤ 40 := by omega
  have hkV : k < V.length := by have := HVn.out; omega
  have hae := HAe.out k hkV
  have hat := fun w h => HAt.out (k : Int) w h
  rw [hae] at hat
  have HA := Lib.hid hat
  have hdk := HDk.out k hkV
  have hdr := HDr.out k hkV
  have hdo := HDo.out k hkV
  have hdb := HDb.out k hkV
  have hdg := HDg.out k hkV
  obtain ⟨q, hq⟩ : ∃ q, q = V[k] := ⟨_, rfl⟩
  rw [← hq] at HA hdk hdr hdo hdb hdg
  have HDk2 := Lib.hid hdk
  have HDr2 := Lib.hid hdr
  have HDo2 := Lib.hid hdo
  have HDb2 := Lib.hid hdb
  have HFq : Hid (fitD q.1) := ⟨by unfold validR at hdg; simp only [Bool.and_eq_true, decide_eq_true_eq] at hdg; simp [Lit.wf, IntKind.min, IntKind.max, IntKind.signed, IntKind.bits]; omega, by unfold validR at hdg; simp only [Bool.and_eq_true, decide_eq_true_eq] at hdg; simp [Lit.wf, IntKind.min, IntKind.max, IntKind.signed, IntKind.bits]; omega⟩
  have HKl := Lib.hid hkl
  have HLm : Hid ((l.map (killAt [q.1])).length = l.length) := List.length_map ..
  clear hk hq hdk hdr hdo hdb hdg hae hat HAt HAe HDk HDr HDo HDb HDg HH HVn hkV h0 h0p
  generalize l.map (killAt [q.1]) = L2 at *
  go_wp2_with fail
  refine (HA.out _ HX.out).mono ?_
  rintro e w3 ⟨rfl, hb⟩
  have hb2 := bel_tr hb (bel_box w3 (.cells (nc q) 37))
  have HN := Lib.hid (Nb.new w3 q)
  have hb3 := hb
  replace HX := Lib.hid (HX.out.keep hb2)
  replace HI := Lib.hid (HI.out.keep hb2 (Nat.le_refl _))
  replace HB := Lib.hid (bel_tr HB.out hb2)
  clear hb hb2 hb3 HA htm hmd hcv hcv2 hr0 hne0 hne1 hneb
  obtain ⟨n0, n1, n2, n3, n4, n5⟩ := HN.out
  have hszn : (w3.alloc (.cells (nc q) 37)).heap.size = w3.heap.size + 1 := by simp
  have hb := bel_box (w3.alloc (.cells (nc q) 37)) (.cells #[.int .i64 q.1.1, .int .i64 q.1.2] 34)
  have HDl : Hid (RowD ((w3.alloc (.cells (nc q) 37)).alloc (.cells #[.int .i64 q.1.1, .int .i64 q.1.2] 34)) (some ⟨w3.heap.size + 1, 0, none⟩) [q.1]) := by rw [← hszn]; exact RowD.lit _ [q.1] _ _ _ rfl
  replace HB := Lib.hid (bel_tr HB.out hb)
  replace HX := Lib.hid (HX.out.keep hb)
  replace HI := Lib.hid (HI.out.keep hb (Nat.le_refl _))
  replace HN := Lib.hid (HN.out.keep hb)
  have hkc := HKp.out [q.1] (some ⟨w3.heap.size + 1, 0, none⟩) 1 _ (fun d hd => by rw [List.mem_singleton.1 hd]; exact HFq.out) HX.out HDl.out (by simp)
  rw [HDk2.out] at hkc
  have HKc := Lib.hid hkc
  clear hb hszn hkc HKp HDl HDk2
  go_wp2_with fail
  generalize hw5 : (w3.alloc (.cells (nc q) 37)).alloc (.cells #[.int .i64 q.1.1, .int .i64 q.1.2] 34) = w5 at *
  clear hw5 n0 n1 n2 n3 n4 n5
  generalize w3.heap.size = g at *
  refine HKc.out.mono ?_
  rintro e w6 ⟨v6, rfl, ho, hb⟩
  obtain ⟨a6, c6, rfl, hr6, -⟩ := ON.row ho
  have HL := Lib.hid hr6
  replace HB := Lib.hid (bel_tr HB.out hb)
  replace HI := Lib.hid (HI.out.keep hb (Nat.le_refl _))
  replace HN := Lib.hid (HN.out.keep hb)
  clear ho hb hr6 HKc HX
  have hcut := cut_loR a2 rs.length c2 k (by have := HIc.out; have := HKl.out; omega)
  have hcut2 := cut_hiR a2 rs.length c2 (k + 1) (rs.length - (k + 1)) (by have := HKl.out; omega) HIc.out
  rw [show ((k + 1 : Nat) : Int) = (k : Int) + 1 by omega] at hcut2
  have HN2 : Hid (offR a2 c2 (k + 1) = none → c2 - (k + 1) = 0) := fun h => by have := HIn.out (offR_none h); omega
  have HRP := Lib.hid (rowR_take HI.out k)
  have HRR := Lib.hid (offR_row HI.out c2 (k + 1) HIc.out (by have := HKl.out; omega))
  have HLt : Hid ((rs.take k).length = k) := by have := HKl.out; show _ = _; rw [List.length_take]; omega
  have HLd : Hid ((rs.drop (k + 1)).length = rs.length - (k + 1)) := by show _ = _; rw [List.length_drop]
  have HLP : Hid ((rs.take k).length + (rs.drop (k + 1)).length ≤ 100) := by have h1 := HLt.out; have h2 := HLd.out; have h3 := HRl.out; show _ ≤ _; omega
  generalize offR a2 c2 (k + 1) = ad2 at *
  generalize c2 - (k + 1) = cR at *
  generalize rs.take k = P at *
  generalize rs.drop (k + 1) = Rr at *
  go_wp2_with fail
  have hb := (Below.refl w6.heap.size w6).drew
  replace HB := Lib.hid (bel_tr HB.out hb)
  replace HN := Lib.hid (HN.out.keep hb)
  replace HL := Lib.hid (HL.out.keep hb)
  replace HRP := Lib.hid (HRP.out.keep hb (Nat.le_refl _))
  replace HRR := Lib.hid (HRR.out.keep hb (Nat.le_refl _))
  clear hb HI
  refine Sch.wp_region_tn (fun _ => True) (.val 0 (.val 1 (.val 2 (.val 4 (.val 5 (.val 6 (.val 7 (.one 3 (.one 8 (.val 9 .done)))))))))) (by kernel_rfl) (by kernel_rfl) trivial ?_
  repeat (first
    | (refine Sch.tn_q rfl rfl rfl (fun K hK => ?_); go_big_quiet_op; (first | refine hK _ ?_ | refine ⟨_, fun _ _ => rfl, hK _ ?_⟩); clear hK K)
    | (refine Sch.tn_chk _ _ _ rfl rfl rfl rfl rfl ?_; simp only [Act.put, List.setIfInBounds_toArray, List.set_cons_zero, List.set_cons_succ]))
  generalize w6.drew = w7 at *
  have HY := Lib.hid (Below.refl w7.heap.size w7)
  refine Sch.tn_e rfl rfl (fun K hK => ?_)
  refine G.wp_appIo _ _ _ rfl Try.underlying30 infoR (.slice none 0 0) [] rfl (G.OI.nil _ w7.heap.size _ _) a2 P c2 k HLt.out.symm rfl HRP.out HIn.out (by have := HLP.out; simp; omega) (by omega) (Nat.le_refl _) ?_
  intro v8 w8 ho hg
  have HO8 : Hid (G.OI w8 w7.heap.size 21 .i32 v8 P) := ho
  replace HY := Lib.hid (HY.out.grown hg (Nat.le_refl _) (fun k hk => by cases hk))
  clear ho hg
  refine hK _ _ trivial ?_
  clear hK K
  simp only [Act.put, List.setIfInBounds_toArray, List.set_cons_zero, List.set_cons_succ]
  refine Sch.tn_e rfl rfl (fun K hK => ?_)
  refine G.wp_appIo _ _ _ rfl Try.underlying30 infoR v8 P rfl HO8.out ad2 Rr cR (rs.length - (k + 1)) HLd.out.symm rfl (HRR.out.keep HY.out (Nat.le_refl _)) HN2.out (by have := HLP.out; omega) (by omega) HY.out.size ?_
  intro v9 w9 ho hg
  replace HY := Lib.hid (HY.out.grown hg HY.out.size (fun k hk => (HO8.out.lt k hk).1))
  obtain ⟨Wt, hWt⟩ : ∃ Wt, Wt = P ++ Rr := ⟨_, rfl⟩
  rw [← hWt] at ho HDr2
  have HWl : Hid (Wt.length ≤ 100) := by have := HLP.out; show _ ≤ _; rw [hWt, List.length_append]; omega
  clear hWt
  obtain ⟨aW, cW, rfl, hrW, -⟩ := G.OI.row ho
  have HWr := Lib.hid hrW
  clear ho hg hrW HO8
  refine hK _ _ trivial ?_
  clear hK K
  simp only [Act.put, List.setIfInBounds_toArray, List.set_cons_zero, List.set_cons_succ]
  repeat (first
    | (refine Sch.tn_q rfl rfl rfl (fun K hK => ?_); go_big_quiet_op; (first | refine hK _ ?_ | refine ⟨_, fun _ _ => rfl, hK _ ?_⟩); clear hK K)
    | (refine Sch.tn_chk _ _ _ rfl rfl rfl rfl rfl ?_; simp only [Act.put, List.setIfInBounds_toArray, List.set_cons_zero, List.set_cons_succ]))
  refine Sch.tn_n ?_
  have hb := HY.out
  replace HB := Lib.hid (bel_tr HB.out hb)
  replace HN := Lib.hid (HN.out.keep hb)
  replace HL := Lib.hid (HL.out.keep hb)
  have HLl : Hid (L2.length ≤ 41) := by have h1 := HLm.out; have h2 := HLe.out; show _ ≤ _; omega
  have HTc := Lib.hid (fun w h h2 => chars_true L2 Wt 0 a6 aW c6 cW w h (by have := HLl.out; omega) HDr2.out h2 (by have := HWl.out; omega))
  have HTo := Lib.hid (fun w h => ofI_true L2 q.1 0 9 a6 c6 w h (by have := HLl.out; omega) HDo2.out)
  have HTb := Lib.hid (fun w h => befI_true L2 q.1 (k : Int) 0 a6 c6 w h (by have := HLl.out; omega) HDb2.out)
  clear hb HY HRP HRR hcut hcut2 HN2 HLt HLd HLP HIn HIc HKl
  go_wp2_with fail
  refine (HTc.out _ HL.out HWr.out).mono ?_
  rintro e w14 ⟨rfl, hb⟩
  replace HB := Lib.hid (bel_tr HB.out hb)
  replace HN := Lib.hid (HN.out.keep hb)
  replace HL := Lib.hid (HL.out.keep hb)
  clear hb
  clear HWr HTc
  obtain ⟨n0, n1, n2, n3, n4, n5⟩ := HN.out
  go_wp2_with fail
  refine (HTo.out _ HL.out).mono ?_
  rintro e w15 ⟨rfl, hb⟩
  replace HB := Lib.hid (bel_tr HB.out hb)
  replace HN := Lib.hid (HN.out.keep hb)
  replace HL := Lib.hid (HL.out.keep hb)
  clear hb
  clear HTo n0 n1 n2 n3 n4 n5
  obtain ⟨n0, n1, n2, n3, n4, n5⟩ := HN.out
  go_wp2_with fail
  refine (HTb.out _ HL.out).mono ?_
  rintro e w16 ⟨rfl, hb⟩
  replace HB := Lib.hid (bel_tr HB.out hb)
  clear hb
  clear HTb n0 n1 n2 n3 n4 n5
  go_wp2_with fail
  refine (knownI_any _).mono ?_
  rintro e w99 ⟨rfl, hb⟩
  replace HB := Lib.hid (bel_tr HB.out hb)
  clear hb
  go_wp2_with fail
  go_ret
  exact ⟨rfl, HB.out⟩
end Go.Proofs.Yteojbekkbgcmnab.Un
