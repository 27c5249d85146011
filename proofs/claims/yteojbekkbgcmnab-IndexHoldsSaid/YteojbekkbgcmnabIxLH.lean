/-
  The law IndexHolds.
-/
import Derived.Test.YteojbekkbgcmnabIxKn
import Derived.Test.YteojbekkbgcmnabIxR
namespace Go.Proofs.Yteojbekkbgcmnab.Un
set_option linter.unusedVariables false
open Go.RowKit V Go.Shelf Go.Sort D Nd Qs Wk Ix
attribute [local irreducible] Sch.heldN Sch.stepV Sch.stepE

theorem ix_rune (b o n c k : Nat) (z : Int) (hz : z = (k : Int)) (hk : k < n) : ∀ w, (Instr.indexAt 30 (.slice (some ⟨b, o, none⟩) n c) (.int .i64 z)).run Try.prog w = .ok (.pointer (some ⟨b, o + k, none⟩)) w := by
  subst hz
  have u9 := Try.underlying30
  have s5 := Try.sizeOf21
  intro w
  go_simp
theorem wp_appDo {P : Program} {w : World} {x : Oper} {a : Act} {K : Act → World → Prop} {Q : Exit → Act → World → Prop} (s y : Operand) (T : TypeId)
    (ho : x.op = .call { callee := .builtin .append, args := #[s, y], argTypes := #[T, T] })
    {base : Nat} {E : TypeId} (hT : P.underlying T = some (.slice E)) (hinfo : (P.info? E).map (fun i => (i.zero, i.size, i.bytes)) = some (some (.agg #[.int .i64 0, .int .i64 0]), 2, 16))
    (v : Value) (l : List Dt) (hs : a.eval s = v) (h : OD w base E v l) (ad : Option Addr) (m : List Dt) (c n : Nat) (hn : n = m.length) (hx : a.eval y = .slice ad n c) (hrow : RowD w ad m) (hnil : ad = none → c = 0)
    (hlen : l.length + m.length ≤ 8796093022208) (hbase : base ≤ w.heap.size)
    (hk : ∀ v' w', OD w' base E v' (l ++ m) → w.grownBy w' v.ownBlock → K (a.put x.dst v') w') : x.wp P a w K Q := by
  subst hn
  obtain ⟨v', w', hr, h2, h3, -⟩ := run_appD hT hinfo h x.type ad m c hrow hnil hlen hbase
  unfold Oper.wp execOp
  simp only [ho, resolve, invoke, builtin, Sem.run_bind, Sem.run_pure, Result.andThen_ok, List.map_toArray, List.map_cons, List.map_nil, hs, hx, hr]
  exact hk _ _ h2 h3
/-- The node's box and a rune's cell, in the worlds behind one. -/
def Kr (w5 : World) (g : Nat) (q : Nt) (b o : Nat) (w : World) : Prop := Below w5.heap.size w5 w ∧ Nb w g q ∧ w.cell? ⟨b, o, none⟩ = some (.int .i32 q.2.2.2)
theorem Kr.keep {w5 : World} {g : Nat} {q : Nt} {b o : Nat} {w w' : World} (h : Kr w5 g q b o w) (hb : Below w.heap.size w w') : Kr w5 g q b o w' :=
  ⟨bel_tr h.1 hb, h.2.1.keep hb, (hb.cell (p := ⟨b, o, none⟩) (lt_of_cell h.2.2)).trans h.2.2⟩
theorem Kr.l0 {w5 : World} {g : Nat} {q : Nt} {b o : Nat} : ∀ w, Kr w5 g q b o w → (Instr.loadAt 34 (.pointer (some ⟨g, 0, none⟩))).run Try.prog w = .ok (dv q.1) w := fun w h => h.2.1.loadD
theorem Kr.l5 {w5 : World} {g : Nat} {q : Nt} {b o : Nat} : ∀ w, Kr w5 g q b o w → (Instr.loadAt 21 (.pointer (some ⟨g, 5, none⟩))).run Try.prog w = .ok (.int .i32 q.2.2.2) w := fun w h => h.2.1.loadR
theorem Kr.lr {w5 : World} {g : Nat} {q : Nt} {b o : Nat} : ∀ w, Kr w5 g q b o w → (Instr.loadAt 21 (.pointer (some ⟨b, o, none⟩))).run Try.prog w = .ok (.int .i32 q.2.2.2) w := fun w h => by
  have h0 := h.2.2
  go_simp
def Ru (w : World) (b o : Nat) (r : Int) : Prop := w.cell? ⟨b, o, none⟩ = some (.int .i32 r)
theorem Ru.keep {w w' : World} {b o : Nat} {r : Int} (h : Ru w b o r) (hb : Below w.heap.size w w') : Ru w' b o r := (hb.cell (p := ⟨b, o, none⟩) (lt_of_cell h)).trans h
theorem ru_of {w : World} {a : Option Addr} {l : List Int} (h : G.RowI .i32 w a l) (k : Nat) (hk : k < l.length) : ∃ b o, a = some ⟨b, o, none⟩ ∧ Ru w b (o + k) l[k] := by
  rcases h with rfl | ⟨b, o, e, h⟩
  · simp at hk
  · exact ⟨b, o, e, h k hk⟩
theorem encR_lenI (zs : List Int) : (R.encR zs).1.length ≤ 4 * zs.length := by
  unfold R.encR
  split
  · have := (R.encs_len (R.nats zs)).2
    simpa [R.nats] using this
  · simp
section
variable {l : List Nt} (hv : validS l = true)
include hv
theorem parts_lo {p : Nat} (h : p ≤ (runesS l).length) : idotsI l 0 (p : Int) = ((idotsS l).take p, 0) := by
  have h1 := idots_in hv (i := 0) (j := p) (Nat.zero_le _) (by rw [idots_len, ← runes_len]; exact h)
  simpa using h1
theorem parts_hi {p : Nat} (h : p ≤ (runesS l).length) : idotsI l (p : Int) ((runesS l).length : Int) = ((idotsS l).drop p, 0) := by
  have e : (runesS l).length = (idotsS l).length := by rw [idots_len, ← runes_len]
  rw [e] at h ⊢
  rw [idots_in hv h (Nat.le_refl _), List.take_of_length_le (by rw [List.length_drop]; omega)]
theorem parts_all : idotsI l 0 ((runesS l).length : Int) = (idotsS l, 0) := by
  rw [parts_lo hv (Nat.le_refl _), List.take_of_length_le (by rw [idots_len, ← runes_len]; omega)]
end
theorem runes_at (l : List Nt) (k : Nat) (h : k < (runesS l).length) (h2 : k < (visS l).length) : (runesS l)[k] = (visS l)[k].2.2.2 := by
  have : ∀ (L : List Int) (eL : L = (visS l).map (·.2.2.2)) (h5 : k < L.length), L[k] = (visS l)[k].2.2.2 := by
    intro L eL h5
    subst eL
    exact List.getElem_map ..
  exact this _ rfl h
set_option maxRecDepth 100000 in
set_option maxHeartbeats 16000000 in
theorem iholds_law (l : List Nt) (t : Int) (a : Option Addr) (c : Nat) (w : World) (hx : RowN w a l) :
    Calls Try.prog 7 #[.slice a l.length c, .int .i64 t] w fun e w' => e = .returned (.bool true) ∧ Below w.heap.size w w' := by
  have HB := Lib.hid (Below.refl w.heap.size w)
  by_cases hbig : 40 < l.length
  · have hg : (40 : Int) < (l.length : Int) := by omega
    have hgd : decide ((40 : Int) < (l.length : Int)) = true := decide_eq_true hg
    go_enter Try.func7, Try.ntmps7
    go_wp2_with fail
    refine (knownI_any _).mono ?_
    rintro e w99 ⟨rfl, hb⟩
    replace HB := Lib.hid (bel_tr HB.out hb)
    clear hb
    go_wp2_with fail
    go_ret
    exact ⟨rfl, HB.out⟩
  have hle : l.length ≤ 40 := by omega
  have hng : ¬ (40 : Int) < (l.length : Int) := by omega
  have hngd : decide ((40 : Int) < (l.length : Int)) = false := decide_eq_false hng
  have HX := Lib.hid hx
  have HVl := Lib.hid (fun w h => validS_any l a c w h (by omega))
  rcases hv : validS l with _ | _
  · rw [hv] at HVl
    clear hv hbig hx hle
    go_enter Try.func7, Try.ntmps7
    go_wp2_with fail
    refine (HVl.out _ HX.out).mono ?_
    rintro e w11 ⟨rfl, hb⟩
    replace HB := Lib.hid (bel_tr HB.out hb)
    replace HX := Lib.hid (HX.out.keep hb)
    clear hb
    go_wp2_with fail
    refine (knownI_any _).mono ?_
    rintro e w99 ⟨rfl, hb⟩
    replace HB := Lib.hid (bel_tr HB.out hb)
    clear hb
    go_wp2_with fail
    go_ret
    exact ⟨rfl, HB.out⟩
  rw [hv] at HVl
  have HLn := Lib.hid (fun w h => len_prog l a c w h (by omega))
  have HTx := Lib.hid (fun w h => text_prog l a c w h (by omega))
  have HRn := Lib.hid (fun w h => runes_prog l a c w h (by omega))
  rw [len_yes hv] at HLn
  rw [text_yes hv] at HTx
  rw [runesQ_yes hv] at HRn
  have HRl : Hid ((runesS l).length ≤ l.length ∧ l.length ≤ 40) := by have := vis_len hv; show _ ∧ _; rw [runes_len]; omega
  have HKl := Lib.hid (fun w => R.len_any (R.encR (runesS l)).1 w (by have h1 := encR_lenI (runesS l); have h2 := HRl.out; omega))
  rw [hold_len hv] at HKl
  have HAt := Lib.hid (fun (k : Nat) (h : k < (visS l).length) w hh => by have h2 := at_prog l (k : Int) a c w hh (by omega); rw [at_in hv (k := k) h] at h2; exact h2)
  have HOf := Lib.hid (fun (k : Nat) (h : k < (visS l).length) w hh => ofI_true l (visS l)[k].1 (k : Int) 0 a c w hh (by omega) (hold_of hv k h))
  have HBf := Lib.hid (fun (k : Nat) (h : k < (visS l).length) w hh => befI_true l (visS l)[k].1 (k : Int) 0 a c w hh (by omega) (hold_bef hv k h))
  have HLf := Lib.hid (fun (k : Nat) (h : k < (visS l).length) w hh => left_true l ((k : Int) + 1) (visS l)[k].1 0 a c w hh (by omega) (hold_left hv k h))
  have HDp := Lib.hid (fun i j w hh => idots_prog l i j a c w hh (by omega))
  have HP1 := Lib.hid (fun (p : Nat) (h : p ≤ (runesS l).length) => parts_lo hv h)
  have HP2 := Lib.hid (fun (p : Nat) (h : p ≤ (runesS l).length) => parts_hi hv h)
  have HDt := Lib.hid (fun b d n w hh hr (hn : n = (idotsS l).length) => by
    have h2 := dotsI_true l 0 ((runesS l).length : Int) (idotsS l) 0 a b c d w hh (by omega) (parts_all hv) hr (by rw [idots_len, ← runes_len]; have := HRl.out; omega)
    rw [← hn] at h2
    exact h2)
  have HDl : Hid ((idotsS l).length = (runesS l).length) := by show _ = _; rw [idots_len, ← runes_len]
  have HVn := Lib.hid (runes_len l)
  have HRa := Lib.hid (runes_at l)
  clear hv hbig hx hle
  generalize (R.encR (runesS l)).1 = bs at *
  generalize hrs : runesS l = rs at *
  generalize visS l = V at *
  generalize idotsS l = O at *
  clear hrs
  go_enter Try.func7, Try.ntmps7
  go_wp2_with fail
  refine (HVl.out _ HX.out).mono ?_
  rintro e w12 ⟨rfl, hb⟩
  replace HB := Lib.hid (bel_tr HB.out hb)
  replace HX := Lib.hid (HX.out.keep hb)
  clear hb
  clear HVl
  go_wp2_with fail
  refine (HLn.out _ HX.out).mono ?_
  rintro e w13 ⟨rfl, hb⟩
  replace HB := Lib.hid (bel_tr HB.out hb)
  replace HX := Lib.hid (HX.out.keep hb)
  clear hb
  clear HLn
  go_wp2_with fail
  refine (HTx.out _ HX.out).mono ?_
  rintro e w14 ⟨rfl, hb⟩
  replace HB := Lib.hid (bel_tr HB.out hb)
  replace HX := Lib.hid (HX.out.keep hb)
  clear hb
  clear HTx
  go_wp2_with fail
  refine (HRn.out _ HX.out).mono ?_
  rintro e w2 ⟨v2, rfl, ho, hb⟩
  obtain ⟨a2, c2, rfl, hr2, -⟩ := G.OI.row ho
  have HI := Lib.hid hr2
  replace HB := Lib.hid (bel_tr HB.out hb)
  replace HX := Lib.hid (HX.out.keep hb)
  clear ho hb hr2 HRn
  go_wp2_with fail
  refine (HKl.out _).mono ?_
  rintro e w15 ⟨rfl, hb⟩
  replace HB := Lib.hid (bel_tr HB.out hb)
  replace HX := Lib.hid (HX.out.keep hb)
  replace HI := Lib.hid (HI.out.keep hb (Nat.le_refl _))
  clear hb
  clear HKl
  have hrl : (rs.length : Int) ≤ 40 := by have := HRl.out; omega
  have hr0 : ¬ (rs.length : Int) < 0 := by omega
  have hr1 : ¬ (l.length : Int) < (rs.length : Int) := by have := HRl.out; omega
  have hr2 : ¬ l.length < rs.length := by omega
  have hd0 : decide ((rs.length : Int) < 0) = false := decide_eq_false hr0
  have hd1 : decide ((l.length : Int) < (rs.length : Int)) = false := decide_eq_false hr1
  have hd2 : decide (l.length < rs.length) = false := decide_eq_false hr2
  go_wp2_with fail
  clear hng hngd hr0 hr1 hr2
  go_loopw [13, 14, 15, 83] (fun _ _ _ i wr => ∃ k : Nat, k ≤ rs.length ∧ i = .int .i64 (k : Int) ∧ Hid (Below w15.heap.size w15 wr)) (fun _ _ _ i _ => rs.length - (intOf i).toNat)
  case atStart => exact ⟨0, Nat.zero_le _, rfl, Below.refl _ _⟩
  case round =>
    obtain ⟨k, hk, rfl, HZ⟩ := hrel
    by_cases hlt : k < rs.length
    · have hi0 : (k : Int) < (rs.length : Int) := by omega
      have hkb : (k : Int) ≤ 40 := by omega
      have hkV : k < V.length := by have := HVn.out; omega
      have HX0 := Lib.hid (HX.out.keep HZ.out)
      have HAk := Lib.hid (HAt.out k hkV)
      have HOk := Lib.hid (HOf.out k hkV)
      have HBk := Lib.hid (HBf.out k hkV)
      have HLk := Lib.hid (HLf.out k hkV)
      have hra := HRa.out k hlt hkV
      obtain ⟨b1, o1, e1, hcl⟩ := ru_of (HI.out.keep HZ.out (Nat.le_refl _)) k hlt
      subst e1
      obtain ⟨q, hq⟩ : ∃ q, q = V[k] := ⟨_, rfl⟩
      rw [← hq] at HAk HOk HBk HLk hra
      rw [hra] at hcl
      have HC := Lib.hid hcl
      have hix := ix_rune b1 o1 rs.length c2 k (k : Int) rfl hlt
      clear hcl hq hra hkV
      go_wp2_with fail
      refine (HAk.out _ HX0.out).mono ?_
      rintro e w20 ⟨rfl, hb⟩
      replace HZ := Lib.hid (bel_tr HZ.out hb)
      replace HX0 := Lib.hid (HX0.out.keep hb)
      replace HC := Lib.hid (HC.out.keep hb)
      clear hb HAk
      have hb := bel_box w20 (.cells (nc q) 37)
      have HNb := Lib.hid (Nb.new w20 q)
      replace HZ := Lib.hid (bel_tr HZ.out hb)
      replace HX0 := Lib.hid (HX0.out.keep hb)
      replace HC := Lib.hid (HC.out.keep hb)
      clear hb
      go_wp2_with fail
      generalize w20.alloc (.cells (nc q) 37) = w21 at *
      generalize w20.heap.size = g at *
      have hb := (Below.refl w21.heap.size w21).drew
      replace HZ := Lib.hid (bel_tr HZ.out hb)
      replace HX0 := Lib.hid (HX0.out.keep hb)
      replace HC := Lib.hid (HC.out.keep hb)
      replace HNb := Lib.hid (HNb.out.keep hb)
      clear hb
      have HK : Hid (Kr w21.drew g q b1 (o1 + k) w21.drew) := ⟨Below.refl _ _, HNb.out, HC.out⟩
      clear HNb HC
      refine Sch.wp_region_tn (Kr w21.drew g q b1 (o1 + k)) (.val 0 (.val 1 (.val 2 (.val 3 (.val 4 (.val 5 (.val 6 (.val 7 (.val 8 (.val 9 (.val 10 (.val 11 (.val 12 (.val 13 (.val 14 (.val 15 (.one 16 (.val 17 (.val 18 (.val 19 (.val 20 (.val 21 (.val 22 (.val 23 (.one 24 (.val 25 (.val 26 (.val 27 (.val 28 (.val 29 (.val 30 (.val 31 (.val 32 (.one 33 (.val 34 (.val 35 .done)))))))))))))))))))))))))))))))))))) (by kernel_rfl) (by kernel_rfl) HK.out ?_
      repeat (first
        | (refine Sch.tn_q rfl rfl rfl (fun K hK => ?_); go_big_quiet_op; (first | refine hK _ ?_ | refine ⟨_, fun _ _ => rfl, hK _ ?_⟩); clear hK K)
        | (refine Sch.tn_chk _ _ _ rfl rfl rfl rfl rfl ?_; simp only [Act.put, List.setIfInBounds_toArray, List.set_cons_zero, List.set_cons_succ])
        | (refine Sch.tn_load _ _ _ _ _ rfl rfl rfl rfl (by first | exact Kr.l0 | exact Kr.l5 | exact Kr.lr) rfl ?_; simp only [Act.put, List.setIfInBounds_toArray, List.set_cons_zero, List.set_cons_succ]))
      generalize w21.drew = w22 at *
      refine Sch.tn_e rfl rfl (fun K hK => ?_)
      go_wp2_with fail
      refine (HOk.out _ HX0.out).mono ?_
      rintro e w23 ⟨rfl, hb⟩
      replace HZ := Lib.hid (bel_tr HZ.out hb)
      replace HX0 := Lib.hid (HX0.out.keep hb)
      replace HK := Lib.hid (HK.out.keep hb)
      clear hb HOk
      refine hK _ _ HK.out ?_
      clear hK K
      repeat (first
        | (refine Sch.tn_q rfl rfl rfl (fun K hK => ?_); go_big_quiet_op; (first | refine hK _ ?_ | refine ⟨_, fun _ _ => rfl, hK _ ?_⟩); clear hK K)
        | (refine Sch.tn_chk _ _ _ rfl rfl rfl rfl rfl ?_; simp only [Act.put, List.setIfInBounds_toArray, List.set_cons_zero, List.set_cons_succ])
        | (refine Sch.tn_load _ _ _ _ _ rfl rfl rfl rfl (by first | exact Kr.l0) rfl ?_; simp only [Act.put, List.setIfInBounds_toArray, List.set_cons_zero, List.set_cons_succ]))
      refine Sch.tn_e rfl rfl (fun K hK => ?_)
      go_wp2_with fail
      refine (HBk.out _ HX0.out).mono ?_
      rintro e w24 ⟨rfl, hb⟩
      replace HZ := Lib.hid (bel_tr HZ.out hb)
      replace HX0 := Lib.hid (HX0.out.keep hb)
      replace HK := Lib.hid (HK.out.keep hb)
      clear hb HBk
      refine hK _ _ HK.out ?_
      clear hK K
      repeat (first
        | (refine Sch.tn_q rfl rfl rfl (fun K hK => ?_); go_big_quiet_op; (first | refine hK _ ?_ | refine ⟨_, fun _ _ => rfl, hK _ ?_⟩); clear hK K)
        | (refine Sch.tn_chk _ _ _ rfl rfl rfl rfl rfl ?_; simp only [Act.put, List.setIfInBounds_toArray, List.set_cons_zero, List.set_cons_succ])
        | (refine Sch.tn_load _ _ _ _ _ rfl rfl rfl rfl (by first | exact Kr.l0) rfl ?_; simp only [Act.put, List.setIfInBounds_toArray, List.set_cons_zero, List.set_cons_succ]))
      refine Sch.tn_e rfl rfl (fun K hK => ?_)
      go_wp2_with fail
      refine (HLk.out _ HX0.out).mono ?_
      rintro e w25 ⟨rfl, hb⟩
      replace HZ := Lib.hid (bel_tr HZ.out hb)
      replace HX0 := Lib.hid (HX0.out.keep hb)
      replace HK := Lib.hid (HK.out.keep hb)
      clear hb HLk
      refine hK _ _ HK.out ?_
      clear hK K
      repeat (first
        | (refine Sch.tn_q rfl rfl rfl (fun K hK => ?_); go_big_quiet_op; (first | refine hK _ ?_ | refine ⟨_, fun _ _ => rfl, hK _ ?_⟩); clear hK K)
        | (refine Sch.tn_chk _ _ _ rfl rfl rfl rfl rfl ?_; simp only [Act.put, List.setIfInBounds_toArray, List.set_cons_zero, List.set_cons_succ])
        | (refine Sch.tn_load _ _ _ _ _ rfl rfl rfl rfl (by first | exact Kr.l0) rfl ?_; simp only [Act.put, List.setIfInBounds_toArray, List.set_cons_zero, List.set_cons_succ]))
      refine Sch.tn_n ?_
      go_wp2_with fail
      go_roundw
      case rel => exact ⟨k + 1, by omega, by go_num, HZ⟩
      case measure => simp [intOf]; omega
    · have hkn : k = rs.length := by omega
      subst hkn
      have hend : ¬ (rs.length : Int) < (rs.length : Int) := by omega
      replace HB := Lib.hid (bel_tr HB.out HZ.out)
      replace HX := Lib.hid (HX.out.keep HZ.out)
      clear HZ HI HAt HOf HBf HLf HRa HVn hlt hk
      by_cases h0 : t < 0
      · have h0d : decide (t < 0) = true := decide_eq_true h0
        go_wp2_with fail
        refine (knownI_any _).mono ?_
        rintro e w99 ⟨rfl, hb⟩
        replace HB := Lib.hid (bel_tr HB.out hb)
        clear hb
        go_wp2_with fail
        go_ret
        exact ⟨rfl, HB.out⟩
      have h0d : decide (t < 0) = false := decide_eq_false h0
      by_cases h1 : (rs.length : Int) < t
      · have h1d : decide ((rs.length : Int) < t) = true := decide_eq_true h1
        go_wp2_with fail
        refine (knownI_any _).mono ?_
        rintro e w99 ⟨rfl, hb⟩
        replace HB := Lib.hid (bel_tr HB.out hb)
        clear hb
        go_wp2_with fail
        go_ret
        exact ⟨rfl, HB.out⟩
      have h1d : decide ((rs.length : Int) < t) = false := decide_eq_false h1
      obtain ⟨p, rfl⟩ : ∃ p : Nat, t = p := ⟨t.toNat, by omega⟩
      have hp : p ≤ rs.length := by omega
      have HD1 := Lib.hid (fun w h => HDp.out 0 (p : Int) w h)
      rw [HP1.out p hp] at HD1
      have HD2 := Lib.hid (fun w h => HDp.out (p : Int) (rs.length : Int) w h)
      rw [HP2.out p hp] at HD2
      have HLt : Hid ((O.take p).length = p) := by show _ = _; rw [List.length_take]; have := HDl.out; omega
      have HLd : Hid ((O.drop p).length = rs.length - p) := by show _ = _; rw [List.length_drop]; have := HDl.out; omega
      have HAp : Hid (O.take p ++ O.drop p = O) := List.take_append_drop p O
      clear HDp HP1 HP2
      generalize O.take p = P at *
      generalize O.drop p = R2 at *
      have hpb : (p : Int) ≤ 40 := by omega
      go_wp2_with fail
      refine (HD1.out _ HX.out).mono ?_
      rintro e w31 ⟨v31, rfl, ho, hb⟩
      obtain ⟨a31, c31, hv31, hr31, hn31, -⟩ := OD.row ho
      rw [HLt.out] at hv31
      subst hv31
      have HRP := Lib.hid hr31
      have HN1 : Hid (a31 = none → c31 = 0) := fun h => (hn31 h).1
      replace HB := Lib.hid (bel_tr HB.out hb)
      replace HX := Lib.hid (HX.out.keep hb)
      clear ho hb hr31 hn31 HD1
      go_wp2_with fail
      refine (HD2.out _ HX.out).mono ?_
      rintro e w32 ⟨v32, rfl, ho, hb⟩
      obtain ⟨a32, c32, hv32, hr32, hn32, -⟩ := OD.row ho
      rw [HLd.out] at hv32
      subst hv32
      have HRR := Lib.hid hr32
      have HN2 : Hid (a32 = none → c32 = 0) := fun h => (hn32 h).1
      replace HB := Lib.hid (bel_tr HB.out hb)
      replace HX := Lib.hid (HX.out.keep hb)
      replace HRP := Lib.hid (HRP.out.keep hb)
      clear ho hb hr32 hn32 HD2
      have hpl : P.length ≤ 40 := by have := HLt.out; omega
      have hrl2 : R2.length ≤ 40 := by have := HLd.out; omega
      have HPl := Lib.hid hpl
      have HRl2 := Lib.hid hrl2
      clear hpl hrl2
      go_wp2_with (at_builtin; refine BigFrame.wpList_want rfl (fun K hK => ?_); refine wp_appDo _ _ _ rfl Try.underlying45 infoD (.slice none 0 0) [] rfl (OD.nil _ w32.heap.size _) a31 P c31 p HLt.out.symm rfl HRP.out HN1.out (by have := HPl.out; simp; omega) (Nat.le_refl _) ?_)
      intro v8 w8 ho hg
      have HO8 : Hid (OD w8 w32.heap.size 34 v8 P) := ho
      have HY := Lib.hid ((Below.refl w32.heap.size w32).grown hg (Nat.le_refl _) (fun k hk => by cases hk))
      clear ho hg
      refine hK _ _ ?_
      clear hK K
      go_wp2_with (at_builtin; refine BigFrame.wpList_want rfl (fun K hK => ?_); refine wp_appDo _ _ _ rfl Try.underlying45 infoD v8 P rfl HO8.out a32 R2 c32 (rs.length - p) HLd.out.symm rfl (HRR.out.keep HY.out) HN2.out (by have h1 := HPl.out; have h2 := HRl2.out; omega) HY.out.size ?_)
      intro v9 w9 ho hg
      replace HY := Lib.hid (HY.out.grown hg HY.out.size (fun k hk => (HO8.out.lt k hk).1))
      rw [HAp.out] at ho
      obtain ⟨aW, cW, rfl, hrW, -⟩ := OD.row ho
      have HWr := Lib.hid hrW
      clear ho hg hrW HO8
      refine hK _ _ ?_
      clear hK K
      have hb := HY.out
      replace HB := Lib.hid (bel_tr HB.out hb)
      replace HX := Lib.hid (HX.out.keep hb)
      clear hb HY HRP HRR HN1 HN2 HLt HLd HPl HRl2 HAp
      go_wp2_with fail
      refine (HDt.out aW cW _ _ HX.out HWr.out rfl).mono ?_
      rintro e w33 ⟨rfl, hb⟩
      replace HB := Lib.hid (bel_tr HB.out hb)
      clear hb
      go_wp2_with fail
      refine (knownI_any _).mono ?_
      rintro e w99 ⟨rfl, hb⟩
      replace HB := Lib.hid (bel_tr HB.out hb)
      clear hb
      go_wp2_with fail
      go_ret
      exact ⟨rfl, HB.out⟩
end Go.Proofs.Yteojbekkbgcmnab.Un
