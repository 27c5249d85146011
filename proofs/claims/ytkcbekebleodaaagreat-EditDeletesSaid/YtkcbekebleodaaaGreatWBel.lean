/-
  below: the iterator over all that is below a dot.
-/
import Derived.Test.YtkcbekebleodaaaGreatMWRev
import Derived.Sort.LoopGhostIn
namespace Go.Proofs.YtkcbekebleodaaaGreat.Un
set_option linter.unusedVariables false
open Go.RowKit V Go.Shelf D Nd Qs Wk
attribute [local go_sem] Oper.semAt_some
attribute [local irreducible] Sch.heldN Sch.stepV Sch.stepE

abbrev TT : TypeId := 129
abbrev encB (x : At) : Array Value := #[.int .i64 (x.1 : Int), nv x.2]
/-- What the iterator needs of the worlds. -/
def Qb (m Bm Bq : Nat) (d : Dt) (l : List Nt) (A : World) : Prop := Fo A m l ∧ Bx A Bm (.map (some m)) TT ∧ Bd A Bq d
theorem own_heap {A A' : World} {base : Nat} {v : Value} {l : List At} (h : OA A base EA v l) (e : ∀ g vs, v.ownBlock = some g → A.heap[g]? = some (.cells vs EA (0, 0)) → A'.heap[g]? = some (.cells vs EA (0, 0))) : OA A' base EA v l := by
  refine ⟨h.1, ?_⟩
  rcases h.2 with h0 | ⟨g, cap, cur, rfl, hb, hg, rest⟩
  · exact .inl h0
  · exact .inr ⟨g, cap, cur, rfl, hb, e g cur rfl hg, rest⟩
theorem own_kp {C : Nat} {A A' : World} {base : Nat} {v : Value} {l : List At} (h : OA A base EA v l) (hC : C ≤ base) (k : Kp [EA] C A A') : OA A' base EA v l :=
  own_heap h fun g vs hg hx => k.2 g vs EA (0, 0) (Nat.le_trans hC (h.lt g hg).1) (by simp) hx
theorem reach_fit {l : List Nt} (hv : validS l = true) {x : At} {t : List At} (h : Rch l (x :: t)) : fitD x.2.1 ∧ x.1 ≤ l.length := by
  obtain ⟨p, hp, hl⟩ := h x (by simp)
  have h2 := pt_len hp
  rcases pt_inv hp with ⟨-, rfl⟩ | ⟨-, y, q, h1, -, -⟩
  · simp at hl
  · obtain ⟨k1, k2⟩ := at_some h1
    exact ⟨by rw [← k2]; exact (fit_store hv y k1).1, by omega⟩
/-- The box of the next node. -/
def Nx (w : World) (b : Nat) (x : At) : Prop := w.heap[b]? = some (.cells (nca x) EA (0, 0))
theorem Nx.c {w : World} {b : Nat} {x : At} (h : Nx w b x) (j : Nat) : w.cell? ⟨b, j, none⟩ = (nca x)[j]? := by unfold Nx at h; simp only [World.cell?, h]; rfl
theorem Nx.keep {w w' : World} {b : Nat} {x : At} (h : Nx w b x) (hb : Below w.heap.size w w') : Nx w' b x := (hb.block b (Array.getElem?_eq_some_iff.1 h).1).trans h
/-- What is read where the children of the next node are laid. -/
def Sq (Bm m b : Nat) (x : At) (w : World) : Prop := Bx w Bm (.map (some m)) TT ∧ Nx w b x
theorem load_tree2 {w : World} {B : Nat} {v : Value} (h : Bx w B v TT) : (Instr.loadAt 129 (.pointer (some ⟨B, 0, none⟩))).run Tryz.prog w = .ok v w := by
  have hc := h.cell
  go_simp
theorem load_nxd {w : World} {b : Nat} {x : At} (h : Nx w b x) : (Instr.loadAt 25 (.pointer (some ⟨b, 1, none⟩))).run Tryz.prog w = .ok (dv x.2.1) w := by
  have h1 := h.c 1
  have h2 := h.c 2
  simp only [nca] at h1 h2
  go_simp
theorem load_nxk {w : World} {b : Nat} {x : At} (h : Nx w b x) : (Instr.loadAt 3 (.pointer (some ⟨b, 0, none⟩))).run Tryz.prog w = .ok (.int .i64 (x.1 : Int)) w := by
  have h1 := h.c 0
  simp only [nca] at h1
  go_simp

set_option maxRecDepth 100000 in
set_option maxHeartbeats 4000000 in
theorem below_seq (l : List Nt) (hv : validS l = true) (hl : l.length ≤ 400000) (m : Nat) (d : Dt) (p : List Dt) (hp : Pt l d p) (hd : fitD d) (w : World) (Bm Bq : Nat) :
    SeqP [EA] [EA] encB 117 #[.pointer (some ⟨Bm, 0, none⟩), .pointer (some ⟨Bq, 0, none⟩)] (Qb m Bm Bq d l) (BD l d 0) w := by
  intro n lo J Jx W hb hlo hJ hJx hQ hQx hY h0
  obtain ⟨hF, hM, hD⟩ := hQ _ _ h0
  have HY := Lib.hid (fun pre x A h1 h2 => yieldAny (m' := 2) (hY pre x A h1 h2))
  have HQ := Lib.hid hQ
  have HJ := Lib.hid hJ
  have HJx := Lib.hid hJx
  have H0 := Lib.hid h0
  have HV := Lib.hid hv
  have HL := Lib.hid hl
  have HP := Lib.hid hp
  have HBef := Lib.hid (fun (st : List At) (v : Value) (d : Dt) (k : Nat) (w : World) h1 h2 h3 h4 h5 h6 => (callsIn_wide (n := 2)).2 (before_any l hv m st v d k W.heap.size w h1 h2 h3 h4 h5 h6))
  have HB0 := Lib.hid (HBef.out [] (.slice none 0 0) d 0 W hF (OA.nil _ _ _) hd (Nat.le_refl _) (by simp; omega) (by omega))
  have c1 := hM.cell
  have c2 := hD.c0
  have c3 := hD.c1
  clear hY hQ hQx hJ hJx h0 hb hF hM hD hv hp hl
  refine callsIn_wide.2 ((callsIn_wide (n := 3)).1 ?_)
  refine callsIn_of_wp_marks Tryz.func117 rfl trivial ?_ rfl
  simp only [Tryz.ntmps117, List.size_toArray, List.length_cons, List.length_nil, Nat.reduceAdd, Nat.reduceSub, Array.replicate_succ, Array.replicate_zero, List.push_toArray, List.append_toArray, List.nil_append, List.cons_append]
  gi_wp2
  refine ⟨trivial, HB0.out.mono ?_⟩
  rintro e w1 ⟨v, rfl, ho, hg, -⟩
  have hb1 : Below W.heap.size W w1 := bel_none hg
  have HO1 := Lib.hid ho
  have HJ1 := Lib.hid ((HJ.out []).below H0.out hb1)
  have HW1 := Lib.hid hb1.size
  clear ho hg hb1 HB0 c1 c2 c3
  gi_wp2
  gi_loopg [4] (l.length) (fun k s4 wr => ∃ (todo pre : List At), Hid (BD l d 0 = pre ++ restS l todo) ∧ Hid (Rch l todo) ∧ Hid (OA wr W.heap.size EA s4 todo.reverse) ∧ Hid (J pre wr) ∧ Hid (W.heap.size ≤ wr.heap.size) ∧ Hid ((restS l todo).length ≤ k))
  case atStart =>
    refine ⟨kidsS l d 0, [], (rest_kids HV.out HP.out 0).symm, rch_kids HV.out HP.out (Nat.zero_le _), ?_, HJ1.out, HW1.out, ?_⟩
    · have := HO1.out
      rw [List.nil_append] at this
      exact this
    · show _ ≤ _
      rw [rest_kids HV.out HP.out, bd_len]
      exact bw_len HV.out HP.out
  case round =>
    obtain ⟨todo, pre, HE, HR, HO, HJp, HW, HK⟩ := hrel
    have HRw := Lib.hid HO.out.row
    cases todo with
    | nil =>
      obtain ⟨a, c, rfl, -, -, -, -⟩ := HRw.out
      have HD2 : Hid (J (BD l d 0) wr) := by
        have e : BD l d 0 = pre := by rw [HE.out]; simp [restS]
        show J _ _
        rw [e]
        exact HJp.out
      have hz : (([] : List At).reverse.length : Int) = 0 := rfl
      simp only [List.reverse_nil, List.length_nil] at hz ⊢
      gi_wp2
      exact ⟨_, results_none rfl _ _ _, ⟨_, rfl⟩, .inl HD2.out⟩
    | cons x t =>
      obtain ⟨m1, hm1⟩ : ∃ m1, m1 = (x :: t).reverse := ⟨_, rfl⟩
      have hm2 : m1 = t.reverse ++ [x] := by rw [hm1]; simp
      have hml : m1.length = t.length + 1 := by rw [hm1]; simp
      rw [← hm1] at HO HRw
      obtain ⟨a, c, rfl, hrow, -, hcc, hax⟩ := HRw.out
      have hx : m1[t.length]'(by omega) = x := by simp [hm2]
      obtain ⟨g, o, rfl, q0, q1, q2, q3, q4, q5, q6⟩ := hrow.get t.length (by omega)
      have ho0 : o = 0 := by have := (hax _ rfl).1; simpa using this
      subst ho0
      rw [hx] at q0 q1 q2 q3 q4 q5 q6
      rw [Nat.zero_add] at q0 q1 q2 q3 q4 q5 q6
      have HM := Lib.hid hm2
      have hti : (t.length : Int) ≤ 400000 := by
        have h1 := rest_len l (x :: t)
        have h2 : (restS l (x :: t)).length ≤ (BD l d 0).length := by rw [HE.out, List.length_append]; omega
        rw [bd_len] at h2
        have h3 := bw_len HV.out HP.out
        have h4 := HL.out
        rw [List.length_cons] at h1
        omega
      have HA1 : Hid (Nx (wr.alloc (.cells (nca x) EA)) wr.heap.size x) := heap_new wr _
      have HJ1 : Hid (J pre (wr.alloc (.cells (nca x) EA))) := (HJ.out pre).alloc _ HJp.out
      have HO1 : Hid (OA (wr.alloc (.cells (nca x) EA)) W.heap.size EA (.slice (some ⟨g, 0, none⟩) m1.length c) m1) := HO.out.below (bel_box _ _)
      have HE2 : Hid (BD l d 0 = pre ++ x :: restS l (kidsS l x.2.1 (x.1 + 1) ++ t)) := by show _ = _; rw [HE.out, rest_step HV.out HR.out]
      have HR2 := Lib.hid (rch_step HV.out HR.out)
      have HK2 : Hid ((restS l (kidsS l x.2.1 (x.1 + 1) ++ t)).length + 1 ≤ gk) := by have := HK.out; rw [rest_step HV.out HR.out, List.length_cons] at this; exact this
      have HFx := Lib.hid (reach_fit HV.out HR.out)
      have hxi : (x.1 : Int) ≤ 400000 := by have := HFx.out.2; have := HL.out; omega
      have HWb : Hid (W.heap.size ≤ (wr.alloc (.cells (nca x) EA)).heap.size ∧ W.heap.size ≤ wr.heap.size ∧ g < wr.heap.size ∧ W.heap.size ≤ g) := ⟨by have := HW.out; simp; omega, HW.out, (HO.out.lt g rfl).2, (HO.out.lt g rfl).1⟩
      obtain ⟨fn, tmps, assign, body, hy, hR⟩ := HY.out pre x _ HJ1.out (by rw [HE2.out]; exact ⟨restS l (kidsS l x.2.1 (x.1 + 1) ++ t), by simp⟩)
      have HRr := Lib.hid hR
      clear hR hm1 hm2 hrow hcc hax HRw hx HE HR HK HJp HO
      generalize m1.length = q at *
      subst hml
      gi_wp2_with fail
      refine HRr.out.mono ?_
      rintro e A3 ⟨hkp, ⟨rfl, hj⟩ | ⟨rfl, hxx⟩⟩
      · have HO3 := Lib.hid (own_kp HO1.out (Nat.le_refl _) hkp)
        have HA3 : Hid (Nx A3 wr.heap.size x) := hkp.2 _ _ EA _ HWb.out.2.1 (by simp) HA1.out
        have HQ3 := Lib.hid (HQ.out _ _ hj)
        have hcap : (t.length : Int) + 1 ≤ (c : Int) := by have := HO3.out.r.2.2.1; omega
        have hcap2 : (t.length : Int) ≤ (c : Int) := by omega
        have HJd := Lib.hid ((HJ.out _).drew hj)
        have HSd : Hid (Sq Bm m wr.heap.size x A3.drew) := ⟨HQ3.out.2.1.keep ((Below.refl _ _).drew), HA3.out.keep ((Below.refl _ _).drew)⟩
        have HFd := Lib.hid (HQ3.out.1.keep ((Below.refl _ _).drew))
        have HOd : Hid (OA A3.drew W.heap.size EA (.slice (some ⟨g, 0, none⟩) t.length c) t.reverse) := by
          have h1 := (HO3.out.below ((Below.refl _ _).drew)).take t.length (by rw [HM.out]; simp)
          rw [HM.out, show t.length = t.reverse.length by simp, List.take_left] at h1
          show OA _ _ _ _ _
          simpa using h1
        have HWd : Hid (W.heap.size ≤ A3.drew.heap.size) := Nat.le_trans HWb.out.1 hkp.1.size
        have a1 := Lib.hid (fun w (h : Sq Bm m wr.heap.size x w) => load_tree2 h.1)
        have a2 := Lib.hid (fun w (h : Sq Bm m wr.heap.size x w) => load_nxd h.2)
        have a3 := Lib.hid (fun w (h : Sq Bm m wr.heap.size x w) => load_nxk h.2)
        clear hkp hj HRr hy HO3 HA3 HQ3 HA1 HO1 HJ1 q0 q1 q2 q3 q4 q5 q6
        gi_wp2
        refine Sch.wpIn_region_tn (Sq Bm m wr.heap.size x) (.val 0 (.val 1 (.val 2 (.val 3 (.val 4 (.val 5 (.val 6 (.val 7 (.val 8 (.val 9 (.one 10 (.val 11 .done)))))))))))) (by kernel_rfl) (by kernel_rfl) HSd.out ?_
        repeat (first
          | (refine Sch.tw_q rfl rfl rfl (fun K hK => ?_); go_big_quiet_op; (first | refine hK _ ?_ | refine ⟨_, fun _ _ => rfl, hK _ ?_⟩); clear hK K)
          | (refine Sch.tw_chk _ _ _ rfl rfl rfl rfl rfl ?_; simp only [Act.put, List.setIfInBounds_toArray, List.set_cons_zero, List.set_cons_succ])
          | (refine Sch.tw_load _ _ _ _ _ rfl rfl rfl rfl (by first | exact a1.out | exact a2.out | exact a3.out) rfl ?_; simp only [Act.put, List.setIfInBounds_toArray, List.set_cons_zero, List.set_cons_succ]))
        generalize A3.drew = w4 at *
        have HB4 := Lib.hid (HBef.out t.reverse (.slice (some ⟨g, 0, none⟩) t.length c) x.2.1 (x.1 + 1) w4 HFd.out HOd.out HFx.out.1 HWd.out (by rw [List.length_reverse]; have := HL.out; omega) (by omega))
        rw [show ((x.1 + 1 : Nat) : Int) = (x.1 : Int) + 1 by simp] at HB4
        clear a1 a2 a3
        refine Sch.tw_e rfl rfl (fun K hK => ?_)
        gi_wp2_with fail
        refine ⟨trivial, HB4.out.mono ?_⟩
        rintro e A5 ⟨v5, rfl, ho5, hg5, -⟩
        have HJ5 : Hid (J (pre ++ [x]) A5) := HJ.out _ _ _ _ HJd.out hg5 fun r e => by
          cases e
          obtain ⟨vs, hr⟩ := HOd.out.obj g rfl
          exact ⟨HWb.out.2.2.2, _, hr, .inr ⟨_, _, _, rfl, by simp⟩⟩
        have HS5 : Hid (Sq Bm m wr.heap.size x A5) := ⟨(HQ.out _ _ HJ5.out).2.1, (hg5.block _ (Array.getElem?_eq_some_iff.1 HSd.out.2).1 (fun e => by have h9 := HWb.out.2.2.1; have h10 : wr.heap.size = g := Option.some.inj e; rw [h10] at h9; exact absurd h9 (Nat.lt_irrefl _))).trans HSd.out.2⟩
        have HO5 : Hid (OA A5 W.heap.size EA v5 (kidsS l x.2.1 (x.1 + 1) ++ t).reverse) := by
          show OA _ _ _ _ _
          rw [List.reverse_append]
          exact ho5
        have HW5 : Hid (W.heap.size ≤ A5.heap.size) := Nat.le_trans HWd.out hg5.size
        clear ho5 hg5 HB4 HSd HJd HOd HFd HWd
        refine hK _ _ HS5.out ?_
        clear hK K
        repeat (first
          | (refine Sch.tw_q rfl rfl rfl (fun K hK => ?_); go_big_quiet_op; (first | refine hK _ ?_ | refine ⟨_, fun _ _ => rfl, hK _ ?_⟩); clear hK K)
          | (refine Sch.tw_chk _ _ _ rfl rfl rfl rfl rfl ?_; simp only [Act.put, List.setIfInBounds_toArray, List.set_cons_zero, List.set_cons_succ]))
        refine Sch.tw_n ?_
        gi_wp2
        gi_roundg ((restS l (kidsS l x.2.1 (x.1 + 1) ++ t)).length)
        case rel => exact ⟨kidsS l x.2.1 (x.1 + 1) ++ t, pre ++ [x], by show _ = _; rw [HE2.out]; simp, HR2, HO5, HJ5, HW5, Nat.le_refl _⟩
        case measure => have := HK2.out; omega
      · have HX3 := Lib.hid hxx
        clear hkp hxx HRr hy
        gi_wp2
        exact ⟨_, results_none rfl _ _ _, ⟨_, rfl⟩, .inr HX3.out⟩
end Go.Proofs.YtkcbekebleodaaaGreat.Un
