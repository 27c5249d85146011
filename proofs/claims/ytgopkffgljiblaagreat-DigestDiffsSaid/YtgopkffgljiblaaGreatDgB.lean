/-
  Layer 16: missingFrom, newsFor, Diff of the program.
-/
import Derived.Test.YtgopkffgljiblaaGreatDgA
import Derived.Test.YtgopkffgljiblaaGreatMQMap
namespace Go.Proofs.YtgopkffgljiblaaGreat.Dg
set_option linter.unusedVariables false
open Go.RowKit V Go.Sort D Nd Qs Jn
open E (SV)
open F (Ct cv cbox Bc)
attribute [local irreducible] Sch.heldN Sch.stepV Sch.stepE

/-- Which dots are in a list. -/
def missF (m : List Dt) (d : Dt) : Option Bool := if d ∈ m then some true else none
theorem missF_nil : missF [] = fun _ => none := by funext d; simp [missF]
theorem missF_step {m : List Dt} {k : Nat} (hk : k < m.length) : putF (missF (m.take k)) m[k] true = missF (m.take (k + 1)) := by
  have e : m.take (k + 1) = m.take k ++ [m[k]] := by rw [List.take_add_one, List.getElem?_eq_getElem hk]; rfl
  funext d
  unfold putF missF
  rw [e]
  by_cases h : d = m[k]
  · rw [if_pos h, if_pos (List.mem_append_right _ (by simp [h]))]
  · rw [if_neg h]
    by_cases h2 : d ∈ m.take k
    · rw [if_pos h2, if_pos (List.mem_append_left _ h2)]
    · rw [if_neg h2, if_neg (fun h3 => (List.mem_append.1 h3).elim h2 (by simpa using h))]
theorem missF_get (m : List Dt) (d : Dt) : (missF m d).getD false = decide (d ∈ m) := by
  unfold missF
  by_cases h : d ∈ m
  · rw [if_pos h, decide_eq_true h]; rfl
  · rw [if_neg h, decide_eq_false h]; rfl
theorem missR_len (c : Ct) (l : List Dt) : (F.missR c l).length ≤ l.length := by
  unfold F.missR
  have h1 := fold_len (l.filter fun d => !F.hasC c d) []
  have h2 := List.length_filter_le (fun d => !F.hasC c d) l
  simp at h1
  omega
theorem lack_all (d : Gt) (l : List Nt) {n : Nt} (hn : n ∈ l) : lackN d n = (decide (n.1 ∈ F.missR d.1 (l.map (·.1))) || (deadN n && decide (n.1 ∈ F.missR d.2 (l.map (·.1))))) := by
  have hm : n.1 ∈ l.map (·.1) := List.mem_map.2 ⟨n, hn, rfl⟩
  have h1 : decide (n.1 ∈ F.missR d.1 (l.map (·.1))) = !F.hasC d.1 n.1 := by
    rw [Bool.eq_iff_iff, decide_eq_true_eq, F.mem_miss]
    simp only [hm, true_and, Bool.not_eq_true']
  have h2 : decide (n.1 ∈ F.missR d.2 (l.map (·.1))) = !F.hasC d.2 n.1 := by
    rw [Bool.eq_iff_iff, decide_eq_true_eq, F.mem_miss]
    simp only [hm, true_and, Bool.not_eq_true']
  rw [h1, h2]
  rfl
theorem uBool : Tryz.prog.underlying 85 = some (.map 48 4) := Tryz.underlying85
theorem run_mkD (w : World) (c : Nat) (hc : c ≤ 1000000) :
    ∃ w', (Instr.makeSlice 22 (.int .i64 0) (.int .i64 (c : Int))).run Tryz.prog w = .ok (.slice (some ⟨w.heap.size, 0, none⟩) 0 c) w' ∧ OD w' w.heap.size D.E (.slice (some ⟨w.heap.size, 0, none⟩) 0 c) [] ∧ Below w.heap.size w w' := by
  obtain ⟨i, hi, hz0, hz1, hz2⟩ := G.info_of infoD
  obtain ⟨w', hr, ho, hg⟩ := run_make_own (P := Tryz.prog) w w.heap.size 22 48 i _ 2 Tryz.underlying22 hi hz0 hz1 .i64 .i64 c (by rw [hz2]; omega) (by unfold maxLen; omega) (Nat.le_refl _)
  exact ⟨w', hr, ho, (Below.refl _ _).grown hg (Nat.le_refl _) (fun k hk => by cases hk)⟩
theorem missing_kx (A : Ct) (x y : Value) (l : List Dt) (p : Option Addr) (j : Nat) (w : World) (h : Kx w x y A) (hl : KL 1000000 A) (hr : RowD w p l) (hll : l.length ≤ 1000000) :
    Calls Tryz.prog 80 #[cv x y, .slice p l.length j] w fun e w' => ∃ v, e = .returned v ∧ OD w' w.heap.size D.E v (F.missR A l) ∧ Below w.heap.size w w' := by
  obtain ⟨⟨a, n, rfl, ha, ha2, -⟩, b, m, rfl, hb, hb2, -⟩ := h
  exact F.missing_any A.1 A.2 l a b p n m j w ha hb hr hl.1 hl.2 hll
theorem dots_take {l : List Nt} {k : Nat} (hk : k < l.length) : (l.take (k + 1)).map (·.1) = (l.take k).map (·.1) ++ [l[k].1] := by
  rw [List.take_add_one, List.getElem?_eq_getElem hk, List.map_append]
  rfl
set_option maxRecDepth 100000 in
set_option maxHeartbeats 4000000 in
theorem gmiss_any (A : Ct) (x y : Value) (l : List Nt) (a : Option Addr) (c : Nat) (w : World) (h : Kx w x y A) (hl : KL 400000 A) (hf : ∀ z ∈ l, fitN z) (hx : RowN w a l) (hlx : l.length ≤ 300000) :
    Calls Tryz.prog 58 #[cv x y, .slice a l.length c] w fun e w' => ∃ b, e = .returned (.map (some b)) ∧ w.heap.size ≤ b ∧ Dm elBool w' b 1000000 (missF (F.missR A (l.map (·.1)))) ∧ Below w.heap.size w w' := by
  have HK0 := Lib.hid h
  obtain ⟨a1, n1, a2, n2, rfl, rfl⟩ := h.sh
  have HMs := Lib.hid (fun p j w h hr => missing_kx A (.slice a1 A.1.length n1) (.slice a2 A.2.length n2) (l.map (·.1)) p j w h (hl.mono (by decide)) hr (by rw [List.length_map]; omega))
  have HMl : Hid ((F.missR A (l.map (·.1))).length ≤ 300000) := by
    have := missR_len A (l.map (·.1))
    rw [List.length_map] at this
    show _ ≤ _
    omega
  have HMf : Hid (∀ d ∈ F.missR A (l.map (·.1)), fitD d) := fun d hd => by
    obtain ⟨n, hn, rfl⟩ := List.mem_map.1 (F.mem_miss.1 hd).1
    exact (hf n hn).1
  have HB := Lib.hid (bel_box w (cbox (.slice a1 A.1.length n1) (.slice a2 A.2.length n2)))
  have HT := Lib.hid (F.two_new w (.slice a1 A.1.length n1) (.slice a2 A.2.length n2))
  have HK := Lib.hid (HK0.out.keep HB.out)
  have HX := Lib.hid (hx.keep HB.out)
  have HLn := Lib.hid hlx
  have hli : (l.length : Int) ≤ 300000 := by omega
  clear h hl hf hx HK0
  generalize F.missR A (l.map (·.1)) = ms at *
  obtain ⟨pf, hpf⟩ : ∃ pf : Nat → List Dt, pf = fun k => (l.take k).map (·.1) := ⟨_, rfl⟩
  have HP0 : Hid (pf 0 = []) := by show _ = _; rw [hpf]; rfl
  have HPn : Hid (pf l.length = l.map (·.1)) := by show _ = _; rw [hpf]; simp only [List.take_length]
  have HPs : Hid (∀ k (hk : k < l.length), pf (k + 1) = pf k ++ [l[k].1]) := fun k hk => by rw [hpf]; exact dots_take hk
  have HPl : Hid (∀ k, (pf k).length ≤ 300000) := fun k => by
    rw [hpf]
    simp only [List.length_map, List.length_take]
    omega
  clear hpf hlx
  obtain ⟨w2, hmk, hO, hB2⟩ := run_mkD (w.alloc (cbox (.slice a1 A.1.length n1) (.slice a2 A.2.length n2))) l.length (by have := HLn.out; omega)
  have hsz : (w.alloc (cbox (.slice a1 A.1.length n1) (.slice a2 A.2.length n2))).heap.size = w.heap.size + 1 := by simp
  rw [hsz] at hmk hO
  have HO2 := Lib.hid hO
  have Hsz := Lib.hid hsz
  have HB2 := Lib.hid hB2
  clear hO hB2 hsz
  go_enter Tryz.func58, Tryz.ntmps58
  go_wp2_with fail
  clear hmk
  generalize w.alloc (cbox (.slice a1 A.1.length n1) (.slice a2 A.2.length n2)) = w1 at *
  go_loopw [5, 7, 16] (fun v _ i wr => ∃ k : Nat, k ≤ l.length ∧ i = .int .i64 (k : Int) ∧ Hid (OD wr (w.heap.size + 1) D.E v (pf k)) ∧ Hid (Below w1.heap.size w1 wr)) (fun _ _ i _ => l.length - (intOf i).toNat)
  case atStart => exact ⟨0, Nat.zero_le _, rfl, (by show OD _ _ _ _ (pf 0); rw [HP0.out]; exact HO2.out), HB2.out⟩
  case round =>
    obtain ⟨k, hk, rfl, HO, hh⟩ := hrel
    by_cases hlt : k < l.length
    · have hi0 : (k : Int) < (l.length : Int) := by omega
      obtain ⟨b1, o1, rfl, hna⟩ := na_of (HX.out.keep hh.out) k hlt
      have HSt := Lib.hid (HPs.out k hlt)
      have HPk := Lib.hid (HPl.out k)
      obtain ⟨q, hq⟩ : ∃ q, q = l[k] := ⟨_, rfl⟩
      rw [← hq] at hna HSt
      clear hq
      have hb0 := bel_box wr (.cells (nc q) 51)
      have HB1 := bel_tr hh hb0
      have HO1 := Lib.hid (HO.out.below hb0)
      have HN := Lib.hid (Nb.new wr q)
      clear hb0
      obtain ⟨n0, n1', n2', n3, n4, n5⟩ := hna
      obtain ⟨⟨q1, q2⟩, ⟨q3, q4⟩, q5, q6⟩ := q
      go_upto_region 5 with fail
      generalize wr.alloc (.cells #[.int .i64 q1, .int .i64 q2, .int .i64 q3, .int .i64 q4, .int .i64 q5, .int .i32 q6] 51) = w3 at *
      generalize wr.heap.size = g3 at *
      clear n0 n1' n2' n3 n4 n5
      obtain ⟨n0, n1', n2', n3, n4, n5⟩ := HN.out
      have hb2 := bel_box w3 (.cells #[.int .i64 q1, .int .i64 q2] 48)
      have HO3 := Lib.hid (HO1.out.below hb2)
      have HB3 := bel_tr HB1 hb2
      have HLt : Hid (RowD (w3.alloc (.cells #[.int .i64 q1, .int .i64 q2] 48)) (some ⟨w3.heap.size, 0, none⟩) [(q1, q2)]) := lit_one w3 (q1, q2) _
      have HS3 : Hid (w.heap.size + 1 ≤ (w3.alloc (.cells #[.int .i64 q1, .int .i64 q2] 48)).heap.size) := by
        have h1 := HB3.out.size
        have h2 := Hsz.out
        show _ ≤ _
        omega
      clear hb2
      go_wp2_with (at_builtin; refine wpList_appD rfl _ _ _ rfl Tryz.underlying22 infoD _ _ rfl HO3.out (some ⟨w3.heap.size, 0, none⟩) [(q1, q2)] 1 rfl HLt.out (fun h => by cases h) (by have := HPk.out; simp only [List.length_cons, List.length_nil]; omega) HS3.out ?_)
      intro v7 w7 ho hg _
      have HO7 : Hid (OD w7 (w.heap.size + 1) D.E v7 (pf (k + 1))) := by rw [HSt.out]; exact ho
      have HB7 := Lib.hid (HB3.out.grown hg HB3.out.size (fun x hx => by have h1 := (HO3.out.lt x hx).1; have h2 := Hsz.out; omega))
      clear ho hg n0 n1' n2' n3 n4 n5
      go_wp2_with fail
      go_roundw
      case rel => exact ⟨k + 1, by omega, by go_num, HO7, HB7⟩
      case measure => simp [intOf]; omega
    · obtain rfl : k = l.length := by omega
      have hend : ¬ (l.length : Int) < (l.length : Int) := by omega
      rw [HPn.out] at HO
      obtain ⟨p, j, rfl, hr, -⟩ := HO.out.row
      have HR := Lib.hid hr
      have HMs2 := Lib.hid (HMs.out p j (wr.alloc (.map #[] 0)))
      have HM0 : Hid (Dm elBool (wr.alloc (.map #[] 0)) wr.heap.size 0 (missF (ms.take 0))) := by
        rw [List.take_zero, missF_nil]
        exact Dm.made wr
      have hb := bel_box wr (.map #[] 0)
      have HBw := bel_tr hh hb
      have HKw := Lib.hid (HK.out.keep HBw.out)
      have HTw := Lib.hid (HT.out.keep HBw.out)
      have HRw := Lib.hid (HR.out.keep hb)
      have HSw : Hid (w.heap.size + 1 ≤ wr.heap.size) := by have h1 := hh.out.size; have h2 := Hsz.out; show _ ≤ _; omega
      have e1 : (l.map (·.1)).length = (l.map (·.1)).length := rfl
      clear hb hr HO HR HMs e1
      generalize l.map (·.1) = ds at *
      have k0 := HTw.out.1
      have k1 := HTw.out.2
      have hmm := @run_makeMap Tryz.prog
      go_wp2_with fail
      clear hmm
      generalize wr.alloc (.map #[] 0) = w3 at *
      generalize wr.heap.size = bm at *
      refine (HMs2.out HKw.out HRw.out).mono ?_
      rintro e w4 ⟨v4, rfl, ho, hb⟩
      obtain ⟨p4, j4, rfl, hr, -⟩ := ho.row
      have HR4 := Lib.hid hr
      have HM4 := Lib.hid (HM0.out.keep hb)
      have HB4 := bel_tr HBw hb
      have HBm : Hid (w.heap.size + 1 ≤ bm) := HSw.out
      have HMl2 := Lib.hid HMl.out
      have hmi : (ms.length : Int) ≤ 300000 := by have := HMl.out; omega
      clear ho hb hr HMs2 HKw HTw HRw HM0 HBw k0 k1 hend hli hh
      go_wp2_with fail
      go_loopw [10, 31] (fun _ i wr => ∃ k : Nat, k ≤ ms.length ∧ i = .int .i64 (k : Int) ∧ Hid (Dm elBool wr bm k (missF (ms.take k))) ∧ Hid (RowD wr p4 ms) ∧ Hid (Below w1.heap.size w1 wr)) (fun _ i _ => ms.length - (intOf i).toNat)
      case atStart => exact ⟨0, Nat.zero_le _, rfl, HM4, HR4, HB4⟩
      case round =>
        obtain ⟨k, hk, rfl, HM, HR, hh⟩ := hrel
        by_cases hlt : k < ms.length
        · have hi0 : (k : Int) < (ms.length : Int) := by omega
          obtain ⟨b1, o1, rfl, c0, c1⟩ := HR.out.get (Below.refl _ _) k hlt
          have HNe : Hid (b1 ≠ bm) := fun e => by
            have := HM.out.nb (o1 + k * 2)
            rw [e] at c0
            rw [c0] at this
            cases this
          have HIs := Lib.hid (missF_step hlt)
          have HFq := Lib.hid (HMf.out ms[k] (List.getElem_mem hlt))
          obtain ⟨q, hq⟩ : ∃ q, q = ms[k] := ⟨_, rfl⟩
          rw [← hq] at c0 c1 HIs HFq
          clear hq
          have hb0 := bel_box wr (.cells #[.int .i64 q.1, .int .i64 q.2] 48)
          have HB1 := bel_tr hh hb0
          have HM1 := Lib.hid (HM.out.keep hb0)
          have HR1 := Lib.hid (HR.out.keep hb0)
          have HNk := Lib.hid (show k < maxLen by unfold maxLen; have := HMl2.out; omega)
          clear hb0 HM HR hh
          obtain ⟨q1, q2⟩ := q
          go_wp2_with (at_mapUpdate; refine wpList_putD elBool rfl _ _ _ _ rfl 4 uBool bm k _ rfl HM1.out HNk.out (q1, q2) true rfl rfl HFq.out ?_; intro w6 hm hg)
          have HM3 : Hid (Dm elBool w6 bm (k + 1) (missF (ms.take (k + 1)))) := HIs.out ▸ hm
          have HB3 := Lib.hid (below_gb HB1.out hg HB1.out.size (by have h1 := HBm.out; have h2 := Hsz.out; omega))
          have HR3 := Lib.hid (HR1.out.gb hg (fun b o e e2 => by cases e; cases e2; exact HNe.out rfl))
          clear hm hg c0 c1
          go_roundw
          case rel => exact ⟨k + 1, by omega, by go_num, HM3, HR3, HB3⟩
          case measure => simp [intOf]; omega
        · obtain rfl : k = ms.length := by omega
          have hend : ¬ (ms.length : Int) < (ms.length : Int) := by omega
          have HMe : Hid (Dm elBool wr bm 1000000 (missF ms)) := by
            have := HM.out.mono (Nat.le_trans HMl2.out (by decide : 300000 ≤ 1000000))
            rw [List.take_length] at this
            exact this
          go_wp2_with fail
          go_ret
          exact ⟨_, rfl, by have := HBm.out; omega, HMe.out, HB.out.trans (hh.out.mono HB.out.size)⟩
set_option maxRecDepth 100000 in
set_option maxHeartbeats 4000000 in
theorem lookB (w : World) (b n : Nat) (f : Dt → Option Bool) (h : Dm elBool w b n f) (d : Dt) (hd : fitD d) : (Instr.lookup 85 (.map (some b)) (dv d) false).run Tryz.prog w = .ok (.bool ((f d).getD false)) w :=
  h.look (t := 85) (E := 4) uBool (by kernel_rfl) hd
theorem enters_news : ∀ args w, (callFunc 59 args).run Tryz.prog w = .ok (.enter 59 args) w := enters_of Tryz.func59 (by kernel_rfl) rfl
set_option maxRecDepth 100000 in
set_option maxHeartbeats 4000000 in
theorem news1_any (n : Nt) (g h b1 b2 N : Nat) (f1 f2 : Dt → Option Bool) (w : World) (hd : fitD n.1) (hg : w.cell? ⟨g, 0, none⟩ = some (.map (some b1))) (hh : w.cell? ⟨h, 0, none⟩ = some (.map (some b2))) (hm1 : Dm elBool w b1 N f1) (hm2 : Dm elBool w b2 N f2) :
    Calls Tryz.prog 59 #[nv n, .pointer (some ⟨g, 0, none⟩), .pointer (some ⟨h, 0, none⟩)] w fun e w' => e = .returned (.bool ((f1 n.1).getD false || (deadN n && (f2 n.1).getD false))) ∧ Below w.heap.size w w' := by
  have HB := Lib.hid (bel_box w (.cells (nc n) 51))
  have HN := Lib.hid (Nb.new w n)
  have HM1 := Lib.hid (hm1.keep HB.out)
  have HM2 := Lib.hid (hm2.keep HB.out)
  have HC1 := Lib.hid ((HB.out.cell (p := ⟨g, 0, none⟩) (lt_of_cell hg)).trans hg)
  have HC2 := Lib.hid ((HB.out.cell (p := ⟨h, 0, none⟩) (lt_of_cell hh)).trans hh)
  have HE : Hid (deadN n = (n.2.2.2 == 0)) := rfl
  clear hm1 hm2 hg hh
  have HL1 := lookB _ b1 _ f1 HM1.out n.1 hd
  have HL2 := lookB _ b2 _ f2 HM2.out n.1 hd
  generalize (f1 n.1).getD false = r1 at *
  generalize (f2 n.1).getD false = r2 at *
  clear HM1 HM2 hd
  generalize deadN n = dn at *
  obtain ⟨⟨q1, q2⟩, ⟨q3, q4⟩, q5, q6⟩ := n
  go_enter Tryz.func59, Tryz.ntmps59
  go_upto_region 1 with fail
  generalize w.alloc (.cells #[.int .i64 q1, .int .i64 q2, .int .i64 q3, .int .i64 q4, .int .i64 q5, .int .i32 q6] 51) = w1 at *
  obtain ⟨n0, n1, n2, n3, n4, n5⟩ := HN.out
  have c1 := HC1.out
  have c2 := HC2.out
  rcases r1 with _ | _
  · by_cases h6 : q6 = 0
    · have hE := HE.out
      rw [h6] at n5 hE
      have h7 : dn = true := hE
      subst h7
      clear HE hE HN
      go_wp2_with fail
      go_ret
      exact ⟨by simp, HB.out⟩
    · have h7 : dn = false := by rw [HE.out]; exact beq_false_of_ne h6
      subst h7
      have h8 : (q6 == 0) = false := beq_false_of_ne h6
      clear HE HN
      go_wp2_with fail
      go_ret
      exact ⟨by simp, HB.out⟩
  · go_wp2_with fail
    go_ret
    exact ⟨by simp, HB.out⟩
set_option maxRecDepth 100000 in
set_option maxHeartbeats 4000000 in
theorem newsFor_any (d : Gt) (x y u v : Value) (l : List Nt) (a : Option Addr) (c : Nat) (w : World) (h : Gx w x y u v d) (hl : GL 400000 d) (hf : ∀ z ∈ l, fitN z) (hx : RowN w a l) (hlx : l.length ≤ 300000) :
    Calls Tryz.prog 39 #[gv x y u v, .slice a l.length c] w fun e w' => ∃ g1 g2, e = .returned (.func (.func 59) #[] #[.pointer (some ⟨g1, 0, none⟩), .pointer (some ⟨g2, 0, none⟩)]) ∧
      (∀ W, Below w'.heap.size w' W → ∀ n ∈ l, Calls Tryz.prog 59 #[nv n, .pointer (some ⟨g1, 0, none⟩), .pointer (some ⟨g2, 0, none⟩)] W fun e W' => e = .returned (.bool (lackN d n)) ∧ Below W.heap.size W W') ∧ Below w.heap.size w w' := by
  have HM1 := Lib.hid (fun w (h : Gx w x y u v d) (hr : RowN w a l) => gmiss_any d.1 x y l a c w h.1 hl.1 hf hr hlx)
  have HM2 := Lib.hid (fun w (h : Gx w x y u v d) (hr : RowN w a l) => gmiss_any d.2 u v l a c w h.2 hl.2 hf hr hlx)
  have HL := Lib.hid (fun n (hn : n ∈ l) => lack_all d l hn)
  have HF := Lib.hid (fun n (hn : n ∈ l) => (hf n hn).1)
  have HG0 := Lib.hid h
  obtain ⟨⟨⟨a1, n1, rfl, -⟩, a2, n2, rfl, -⟩, ⟨a3, n3, rfl, -⟩, a4, n4, rfl, -⟩ := h
  have HB := Lib.hid (bel_box w (gbox (.slice a1 d.1.1.length n1) (.slice a2 d.1.2.length n2) (.slice a3 d.2.1.length n3) (.slice a4 d.2.2.length n4)))
  have HT := Lib.hid (four_new w (.slice a1 d.1.1.length n1) (.slice a2 d.1.2.length n2) (.slice a3 d.2.1.length n3) (.slice a4 d.2.2.length n4))
  have HG := Lib.hid (HG0.out.keep HB.out)
  have HX := Lib.hid (hx.keep HB.out)
  clear hl hf hx hlx HG0
  generalize F.missR d.1 (l.map (·.1)) = m1 at *
  generalize F.missR d.2 (l.map (·.1)) = m2 at *
  go_enter Tryz.func39, Tryz.ntmps39
  go_wp2_with fail
  generalize w.alloc (gbox (.slice a1 d.1.1.length n1) (.slice a2 d.1.2.length n2) (.slice a3 d.2.1.length n3) (.slice a4 d.2.2.length n4)) = w1 at *
  have k0 := HT.out.1.1
  have k1 := HT.out.1.2
  have k2 := HT.out.2.1
  have k3 := HT.out.2.2
  go_wp2_with fail
  refine (HM1.out _ HG.out HX.out).mono ?_
  rintro e w2 ⟨b1, rfl, -, hm, hb⟩
  have HD1 := Lib.hid hm
  have hb2 := hb.trans (Below.mono (bel_box w2 (.cells #[.map (some b1)] 85)) hb.size)
  have HC1 := Lib.hid (show (w2.alloc (.cells #[.map (some b1)] 85)).cell? ⟨w2.heap.size, 0, none⟩ = some (.map (some b1)) by go_simp)
  replace HD1 := Lib.hid (HD1.out.keep (bel_box w2 (.cells #[.map (some b1)] 85)))
  replace HG := Lib.hid (HG.out.keep hb2)
  replace HT := Lib.hid (HT.out.keep hb2)
  replace HX := Lib.hid (HX.out.keep hb2)
  replace HB := bel_tr HB hb2
  clear hb hb2 hm HM1 k0 k1 k2 k3
  go_upto_region 2 with fail
  generalize w2.alloc (.cells #[.map (some b1)] 85) = w3 at *
  generalize w2.heap.size = g1 at *
  have k0 := HT.out.1.1
  have k1 := HT.out.1.2
  have k2 := HT.out.2.1
  have k3 := HT.out.2.2
  go_wp2_with fail
  refine (HM2.out _ HG.out HX.out).mono ?_
  rintro e w4 ⟨b2, rfl, -, hm, hb⟩
  have HD2 := Lib.hid hm
  have HC2 := Lib.hid (show (w4.alloc (.cells #[.map (some b2)] 85)).cell? ⟨w4.heap.size, 0, none⟩ = some (.map (some b2)) by go_simp)
  have hb2 := hb.trans (Below.mono (bel_box w4 (.cells #[.map (some b2)] 85)) hb.size)
  replace HD2 := Lib.hid (HD2.out.keep (bel_box w4 (.cells #[.map (some b2)] 85)))
  replace HD1 := Lib.hid (HD1.out.keep hb2)
  replace HC1 := Lib.hid ((hb2.cell (p := ⟨g1, 0, none⟩) (lt_of_cell HC1.out)).trans HC1.out)
  replace HB := bel_tr HB hb2
  clear hb hb2 hm HM2 k0 k1 k2 k3
  go_upto_region 3 with fail
  generalize w4.alloc (.cells #[.map (some b2)] 85) = w5 at *
  generalize w4.heap.size = g2 at *
  go_wp2_with fail
  go_ret
  refine ⟨_, _, rfl, fun W hW n hn => ?_, HB.out⟩
  refine (news1_any n g1 g2 b1 b2 1000000 _ _ W (HF.out n hn) ((hW.cell (p := ⟨g1, 0, none⟩) (lt_of_cell HC1.out)).trans HC1.out) ((hW.cell (p := ⟨g2, 0, none⟩) (lt_of_cell HC2.out)).trans HC2.out) (HD1.out.keep hW) (HD2.out.keep hW)).mono ?_
  rintro e w' ⟨rfl, hb⟩
  rw [missF_get, missF_get, ← HL.out n hn]
  exact ⟨rfl, hb⟩

def diffB (l : List Nt) (d : Gt) : List Nt × Int := if (validS l && validG d) = true then (diffG l d, 0) else ([], 2)
theorem diff_take {l : List Nt} {d : Gt} {k : Nat} (hk : k < l.length) : diffG (l.take (k + 1)) d = if lackN d l[k] = true then diffG (l.take k) d ++ [l[k]] else diffG (l.take k) d := by
  have e : l.take (k + 1) = l.take k ++ [l[k]] := by rw [List.take_add_one, List.getElem?_eq_getElem hk]; rfl
  unfold diffG
  rw [e, List.filter_append, List.filter_cons]
  split
  · simp
  · simp
set_option maxRecDepth 100000 in
set_option maxHeartbeats 4000000 in
theorem gdiff_any (l : List Nt) (a : Option Addr) (c : Nat) (d : Gt) (x y u v : Value) (w : World) (hf : ∀ z ∈ l, fitN z) (hx : RowN w a l) (hlx : l.length ≤ 300000) (h : Gx w x y u v d) (hl : GL 400000 d) :
    Calls Tryz.prog 20 #[.slice a l.length c, gv x y u v] w fun e w' => ∃ z, e = .returned (.tuple #[z, .int .i64 (diffB l d).2]) ∧ ON w' w.heap.size 51 z (diffB l d).1 ∧ Below w.heap.size w w' := by
  have HV1 := Lib.hid (fun w (h : RowN w a l) => jvalid_any l a c w h (by omega))
  have HV2 := Lib.hid (fun w (h : Gx w x y u v d) => gvalid_any d x y u v w h hl)
  have HN := Lib.hid (fun w (h : Gx w x y u v d) (hr : RowN w a l) => newsFor_any d x y u v l a c w h hl hf hr hlx)
  have HE0 : Hid ((validS l && validG d) = false → diffB l d = ([], 2)) := fun h => by unfold diffB; rw [h]; rfl
  have HE1 : Hid (validS l = true → validG d = true → diffB l d = (diffG l d, 0)) := fun h1 h2 => by unfold diffB; rw [h1, h2]; rfl
  obtain ⟨pf, hpf⟩ : ∃ pf : Nat → List Nt, pf = fun k => diffG (l.take k) d := ⟨_, rfl⟩
  have HP0 : Hid (pf 0 = []) := by show _ = _; rw [hpf]; rfl
  have HPn : Hid (pf l.length = diffG l d) := by show _ = _; rw [hpf]; simp only [List.take_length]
  have HPs : Hid (∀ k (hk : k < l.length), pf (k + 1) = if lackN d l[k] = true then pf k ++ [l[k]] else pf k) := fun k hk => by rw [hpf]; exact diff_take hk
  have HPl : Hid (∀ k, (pf k).length ≤ 300000) := fun k => by
    rw [hpf]
    have h1 := List.length_filter_le (lackN d) (l.take k)
    have h2 := List.length_take_le k l
    have h3 : (l.take k).length ≤ l.length := by rw [List.length_take]; omega
    show (diffG (l.take k) d).length ≤ _
    unfold diffG
    omega
  clear hpf
  have hli : (l.length : Int) ≤ 300000 := by omega
  have HG0 := Lib.hid h
  obtain ⟨⟨⟨a1, n1, rfl, -⟩, a2, n2, rfl, -⟩, ⟨a3, n3, rfl, -⟩, a4, n4, rfl, -⟩ := h
  have HB := Lib.hid (bel_box w (gbox (.slice a1 d.1.1.length n1) (.slice a2 d.1.2.length n2) (.slice a3 d.2.1.length n3) (.slice a4 d.2.2.length n4)))
  have HT := Lib.hid (four_new w (.slice a1 d.1.1.length n1) (.slice a2 d.1.2.length n2) (.slice a3 d.2.1.length n3) (.slice a4 d.2.2.length n4))
  have HG := Lib.hid (HG0.out.keep HB.out)
  have HX := Lib.hid (hx.keep HB.out)
  clear hl hf hx hlx HG0
  generalize diffB l d = R at *
  generalize diffG l d = D1 at *
  generalize validS l = v1 at *
  generalize validG d = v2 at *
  go_enter Tryz.func20, Tryz.ntmps20
  go_wp2_with fail
  generalize w.alloc (gbox (.slice a1 d.1.1.length n1) (.slice a2 d.1.2.length n2) (.slice a3 d.2.1.length n3) (.slice a4 d.2.2.length n4)) = w1 at *
  refine (HV1.out _ HX.out).mono ?_
  rintro e w2 ⟨rfl, hb⟩
  replace HG := Lib.hid (HG.out.keep hb)
  replace HT := Lib.hid (HT.out.keep hb)
  replace HX := Lib.hid (HX.out.keep hb)
  replace HB := bel_tr HB hb
  clear hb HV1
  rcases v1 with _ | _
  · have hR := HE0.out (by first | rfl | simp)
    subst hR
    clear HE0 HE1
    go_wp2_with fail
    go_ret2
    exact ⟨_, rfl, ON.nil _ _ _, HB.out⟩
  have k0 := HT.out.1.1
  have k1 := HT.out.1.2
  have k2 := HT.out.2.1
  have k3 := HT.out.2.2
  go_wp2_with fail
  refine (HV2.out _ HG.out).mono ?_
  rintro e w3 ⟨rfl, hb⟩
  replace HG := Lib.hid (HG.out.keep hb)
  replace HT := Lib.hid (HT.out.keep hb)
  replace HX := Lib.hid (HX.out.keep hb)
  replace HB := bel_tr HB hb
  clear hb HV2 k0 k1 k2 k3
  rcases v2 with _ | _
  · have hR := HE0.out (by first | rfl | simp)
    subst hR
    clear HE0 HE1
    go_wp2_with fail
    go_ret2
    exact ⟨_, rfl, ON.nil _ _ _, HB.out⟩
  have hR := HE1.out (by first | rfl | trivial) (by first | rfl | trivial)
  subst hR
  clear HE0 HE1
  have k0 := HT.out.1.1
  have k1 := HT.out.1.2
  have k2 := HT.out.2.1
  have k3 := HT.out.2.2
  go_wp2_with fail
  refine (HN.out _ HG.out HX.out).mono ?_
  rintro e w4 ⟨g1, g2, rfl, hN, hb⟩
  have HNq := Lib.hid hN
  replace HG := Lib.hid (HG.out.keep hb)
  replace HT := Lib.hid (HT.out.keep hb)
  replace HX := Lib.hid (HX.out.keep hb)
  replace HB := bel_tr HB hb
  clear hb hN HN k0 k1 k2 k3 HG HT
  have hen := enters_news
  go_wp2_with fail
  go_loopw [6, 9, 23] (fun v _ i wr => ∃ k : Nat, k ≤ l.length ∧ i = .int .i64 (k : Int) ∧ Hid (ON wr w4.heap.size 51 v (pf k)) ∧ Hid (Below w4.heap.size w4 wr)) (fun _ _ i _ => l.length - (intOf i).toNat)
  case atStart => exact ⟨0, Nat.zero_le _, rfl, (by show ON _ _ _ _ (pf 0); rw [HP0.out]; exact ON.nil _ _ _), Below.refl _ _⟩
  case round =>
    obtain ⟨k, hk, rfl, HO, hh⟩ := hrel
    by_cases hlt : k < l.length
    · have hi0 : (k : Int) < (l.length : Int) := by omega
      obtain ⟨b1, o1, rfl, hna⟩ := na_of (HX.out.keep hh.out) k hlt
      have HSt := Lib.hid (HPs.out k hlt)
      have HPk := Lib.hid (HPl.out k)
      have hme := List.getElem_mem hlt
      obtain ⟨q, hq⟩ : ∃ q, q = l[k] := ⟨_, rfl⟩
      rw [← hq] at hna HSt hme
      clear hq
      have hb0 := bel_box wr (.cells (nc q) 51)
      have HB1 := bel_tr hh hb0
      have HO1 := Lib.hid (HO.out.below hb0)
      have HQ := Lib.hid (HNq.out _ HB1.out q hme)
      have hbx := Nb.new wr q
      clear hb0 hme
      rcases hpq : lackN d q with _ | _
      · rw [hpq] at HQ
        have HSt2 : Hid (pf (k + 1) = pf k) := by show _ = _; rw [HSt.out, if_neg (by rw [hpq]; simp)]
        rw [← HSt2.out] at HO1
        clear hpq HSt hbx
        obtain ⟨n0, n1, n2, n3, n4, n5⟩ := hna
        obtain ⟨⟨q1, q2⟩, ⟨q3, q4⟩, q5, q6⟩ := q
        go_wp2_with fail
        refine HQ.out.mono ?_
        rintro e w6 ⟨rfl, hb⟩
        replace HB1 := bel_tr HB1 hb
        replace HO1 := Lib.hid (HO1.out.below hb)
        clear hb HQ n0 n1 n2 n3 n4 n5
        go_wp2_with fail
        go_roundw
        case rel => exact ⟨k + 1, by omega, by go_num, HO1, HB1⟩
        case measure => simp [intOf]; omega
      · rw [hpq] at HQ
        have HSt2 : Hid (pf (k + 1) = pf k ++ [q]) := by show _ = _; rw [HSt.out, if_pos hpq]
        clear hpq HSt
        obtain ⟨n0, n1, n2, n3, n4, n5⟩ := hna
        obtain ⟨⟨q1, q2⟩, ⟨q3, q4⟩, q5, q6⟩ := q
        go_wp2_with fail
        refine HQ.out.mono ?_
        rintro e w6 ⟨rfl, hb⟩
        replace HB1 := bel_tr HB1 hb
        replace HO1 := Lib.hid (HO1.out.below hb)
        have HN := Lib.hid (hbx.keep hb)
        clear hb HQ n0 n1 n2 n3 n4 n5 hbx
        obtain ⟨n0, n1, n2, n3, n4, n5⟩ := HN.out
        have hb2 := bel_box w6 (.cells (nc ((q1, q2), (q3, q4), q5, q6)) 51)
        have HO2 := Lib.hid (HO1.out.below hb2)
        have HB2 := bel_tr HB1 hb2
        have HLt : Hid (RowN (w6.alloc (.cells (nc ((q1, q2), (q3, q4), q5, q6)) 51)) (some ⟨w6.heap.size, 0, none⟩) [((q1, q2), (q3, q4), q5, q6)]) := RowN.lit w6 [((q1, q2), (q3, q4), q5, q6)] _ _ _ rfl
        clear hb2
        go_wp2_with (at_builtin; refine wpList_appN rfl _ _ _ rfl Tryz.underlying36 infoN _ _ rfl HO2.out (some ⟨w6.heap.size, 0, none⟩) [((q1, q2), (q3, q4), q5, q6)] 1 1 rfl rfl HLt.out (fun h => by cases h) (by have := HPk.out; simp only [List.length_cons, List.length_nil]; omega) HB2.out.size ?_)
        intro v7 w7 ho hg _
        have HO7 : Hid (ON w7 w4.heap.size 51 v7 (pf (k + 1))) := by rw [HSt2.out]; exact ho
        have HB7 := Lib.hid (HB2.out.grown hg HB2.out.size (fun x hx => (HO2.out.lt x hx).1))
        clear ho hg n0 n1 n2 n3 n4 n5
        go_wp2_with fail
        go_roundw
        case rel => exact ⟨k + 1, by omega, by go_num, HO7, HB7⟩
        case measure => simp [intOf]; omega
    · obtain rfl : k = l.length := by omega
      have hend : ¬ (l.length : Int) < (l.length : Int) := by omega
      rw [HPn.out] at HO
      have HB7 := bel_tr HB hh.out
      have HO7 := Lib.hid (HO.out.mono (base' := w.heap.size) fun x hx => Nat.le_trans HB.out.size (HO.out.lt x hx).1)
      go_wp2_with fail
      go_ret2
      exact ⟨_, rfl, HO7.out, HB7.out⟩

end Go.Proofs.YtgopkffgljiblaaGreat.Dg
