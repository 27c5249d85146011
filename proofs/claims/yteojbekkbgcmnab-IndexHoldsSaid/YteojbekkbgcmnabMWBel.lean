/-
  below: the iterator over all that is below a dot.
-/
import Derived.Test.YteojbekkbgcmnabMWRev
import Derived.Sort.LoopGhostIn
import Derived.Test.YteojbekkbgcmnabMDRefB
import Derived.Test.YteojbekkbgcmnabMSchW
import Derived.Test.YteojbekkbgcmnabMQAsk
import Derived.Test.YteojbekkbgcmnabMDCmp

section
namespace Go.Proofs.Yteojbekkbgcmnab.Un
set_option linter.unusedVariables false
open Go.RowKit V Go.Shelf D Nd Qs Wk
attribute [local go_sem] Oper.semAt_some
attribute [local irreducible] Sch.heldN Sch.stepV Sch.stepE

abbrev TT : TypeId := 101
abbrev encB (x : At) : Array Value := #[.int .i64 (x.1 : Int), nv x.2]
/-- What the iterator needs of the worlds. -/
def Qb (m Bm Bq : Nat) (d : Dt) (l : List Nt) (A : World) : Prop := Fo A m l ∧ Bx A Bm (.map (some m)) TT ∧ Bd A Bq d
theorem own_heap {A A' : World} {base : Nat} {v : Value} {l : List At} (h : OA A base EA v l) (e : ∀ g vs, v.ownBlock = some g → A.heap[g]? = some (.cells vs EA (0, 0)) → A'.heap[g]? = some (.cells vs EA (0, 0))) : OA A' base EA v l := by
  refine ⟨h.1, ?_⟩
  rcases h.2 with h0 | ⟨g, cap, cur, rfl, hb, hg, rest⟩
  · exact .inl h0
  · exact .inr ⟨g, cap, cur, rfl, hb, e g cur rfl hg, rest⟩
theorem own_kp {C : Nat} {A A' : World} {base : Nat} {v : Value} {l : List At} (h : OA A base EA v l) (hC : C ≤ base) (k : Kp [EA] C A A') : OA A' base EA v l :=
  own_heap h fun g vs hg hx => k.2 g vs EA (0, 0) (Nat.le_trans hC (h.lt g hg).1) (by simp) hx
theorem reach_fit {l : List Nt} (hv : validS l = true) {x : At} {t : List At} (h : Rch l (x :: t)) : fitD x.2.1 ∧ x.1 ≤ l.length := by
  obtain ⟨p, hp, hl⟩ := h x (by simp)
  have h2 := pt_len hp
  rcases pt_inv hp with ⟨-, rfl⟩ | ⟨-, y, q, h1, -, -⟩
  · simp at hl
  · obtain ⟨k1, k2⟩ := at_some h1
    exact ⟨by rw [← k2]; exact (fit_store hv y k1).1, by omega⟩
/-- The box of the next node. -/
def Nx (w : World) (b : Nat) (x : At) : Prop := w.heap[b]? = some (.cells (nca x) EA (0, 0))
theorem Nx.c {w : World} {b : Nat} {x : At} (h : Nx w b x) (j : Nat) : w.cell? ⟨b, j, none⟩ = (nca x)[j]? := by unfold Nx at h; simp only [World.cell?, h]; rfl
theorem Nx.keep {w w' : World} {b : Nat} {x : At} (h : Nx w b x) (hb : Below w.heap.size w w') : Nx w' b x := (hb.block b (Array.getElem?_eq_some_iff.1 h).1).trans h
/-- What is read where the children of the next node are laid. -/
def Sq (Bm m b : Nat) (x : At) (w : World) : Prop := Bx w Bm (.map (some m)) TT ∧ Nx w b x
theorem load_tree2 {w : World} {B : Nat} {v : Value} (h : Bx w B v TT) : (Instr.loadAt 101 (.pointer (some ⟨B, 0, none⟩))).run Try.prog w = .ok v w := by
  have hc := h.cell
  go_simp
theorem load_nxd {w : World} {b : Nat} {x : At} (h : Nx w b x) : (Instr.loadAt 34 (.pointer (some ⟨b, 1, none⟩))).run Try.prog w = .ok (dv x.2.1) w := by
  have h1 := h.c 1
  have h2 := h.c 2
  simp only [nca] at h1 h2
  go_simp
theorem load_nxk {w : World} {b : Nat} {x : At} (h : Nx w b x) : (Instr.loadAt 3 (.pointer (some ⟨b, 0, none⟩))).run Try.prog w = .ok (.int .i64 (x.1 : Int)) w := by
  have h1 := h.c 0
  simp only [nca] at h1
  go_simp

set_option maxRecDepth 100000 in
set_option maxHeartbeats 4000000 in
theorem below_seq (l : List Nt) (hv : validS l = true) (hl : l.length ≤ 400000) (m : Nat) (d : Dt) (p : List Dt) (hp : Pt l d p) (hd : fitD d) (w : World) (Bm Bq : Nat) :
    SeqP [EA] [EA] encB 96 #[.pointer (some ⟨Bm, 0, none⟩), .pointer (some ⟨Bq, 0, none⟩)] (Qb m Bm Bq d l) (BD l d 0) w := by
  intro n lo J Jx W hb hlo hJ hJx hQ hQx hY h0
  obtain ⟨hF, hM, hD⟩ := hQ _ _ h0
  have HY := Lib.hid (fun pre x A h1 h2 => yieldAny (m' := 2) (hY pre x A h1 h2))
  have HQ := Lib.hid hQ
  have HJ := Lib.hid hJ
  have HJx := Lib.hid hJx
  have H0 := Lib.hid h0
  have HV := Lib.hid hv
  have HL := Lib.hid hl
  have HP := Lib.hid hp
  have HBef := Lib.hid (fun (st : List At) (v : Value) (d : Dt) (k : Nat) (w : World) h1 h2 h3 h4 h5 h6 => (callsIn_wide (n := 2)).2 (before_any l hv m st v d k W.heap.size w h1 h2 h3 h4 h5 h6))
  have HB0 := Lib.hid (HBef.out [] (.slice none 0 0) d 0 W hF (OA.nil _ _ _) hd (Nat.le_refl _) (by simp; omega) (by omega))
  have c1 := hM.cell
  have c2 := hD.c0
  have c3 := hD.c1
  clear hY hQ hQx hJ hJx h0 hb hF hM hD hv hp hl
  refine callsIn_wide.2 ((callsIn_wide (n := 3)).1 ?_)
  refine callsIn_of_wp_marks Try.func96 rfl trivial ?_ rfl
  simp only [Try.ntmps96, List.size_toArray, List.length_cons, List.length_nil, Nat.reduceAdd, Nat.reduceSub, Array.replicate_succ, Array.replicate_zero, List.push_toArray, List.append_toArray, List.nil_append, List.cons_append]
  gi_wp2
  refine ⟨trivial, HB0.out.mono ?_⟩
  rintro e w1 ⟨v, rfl, ho, hg, -⟩
  have hb1 : Below W.heap.size W w1 := bel_none hg
  have HO1 := Lib.hid ho
  have HJ1 := Lib.hid ((HJ.out []).below H0.out hb1)
  have HW1 := Lib.hid hb1.size
  clear ho hg hb1 HB0 c1 c2 c3
  gi_wp2
  gi_loopg [4] (l.length) (fun k s4 wr => ∃ (todo pre : List At), Hid (BD l d 0 = pre ++ restS l todo) ∧ Hid (Rch l todo) ∧ Hid (OA wr W.heap.size EA s4 todo.reverse) ∧ Hid (J pre wr) ∧ Hid (W.heap.size ≤ wr.heap.size) ∧ Hid ((restS l todo).length ≤ k))
  case atStart =>
    refine ⟨kidsS l d 0, [], (rest_kids HV.out HP.out 0).symm, rch_kids HV.out HP.out (Nat.zero_le _), ?_, HJ1.out, HW1.out, ?_⟩
    · have := HO1.out
      rw [List.nil_append] at this
      exact this
    · show _ ≤ _
      rw [rest_kids HV.out HP.out, bd_len]
      exact bw_len HV.out HP.out
  case round =>
    obtain ⟨todo, pre, HE, HR, HO, HJp, HW, HK⟩ := hrel
    have HRw := Lib.hid HO.out.row
    cases todo with
    | nil =>
      obtain ⟨a, c, rfl, -, -, -, -⟩ := HRw.out
      have HD2 : Hid (J (BD l d 0) wr) := by
        have e : BD l d 0 = pre := by rw [HE.out]; simp [restS]
        show J _ _
        rw [e]
        exact HJp.out
      have hz : (([] : List At).reverse.length : Int) = 0 := rfl
      simp only [List.reverse_nil, List.length_nil] at hz ⊢
      gi_wp2
      exact ⟨_, results_none rfl _ _ _, ⟨_, rfl⟩, .inl HD2.out⟩
    | cons x t =>
      obtain ⟨m1, hm1⟩ : ∃ m1, m1 = (x :: t).reverse := ⟨_, rfl⟩
      have hm2 : m1 = t.reverse ++ [x] := by rw [hm1]; simp
      have hml : m1.length = t.length + 1 := by rw [hm1]; simp
      rw [← hm1] at HO HRw
      obtain ⟨a, c, rfl, hrow, -, hcc, hax⟩ := HRw.out
      have hx : m1[t.length]'(by omega) = x := by simp [hm2]
      obtain ⟨g, o, rfl, q0, q1, q2, q3, q4, q5, q6⟩ := hrow.get t.length (by omega)
      have ho0 : o = 0 := by have := (hax _ rfl).1; simpa using this
      subst ho0
      rw [hx] at q0 q1 q2 q3 q4 q5 q6
      rw [Nat.zero_add] at q0 q1 q2 q3 q4 q5 q6
      have HM := Lib.hid hm2
      have hti : (t.length : Int) ≤ 400000 := by
        have h1 := rest_len l (x :: t)
        have h2 : (restS l (x :: t)).length ≤ (BD l d 0).length := by rw [HE.out, List.length_append]; omega
        rw [bd_len] at h2
        have h3 := bw_len HV.out HP.out
        have h4 := HL.out
        rw [List.length_cons] at h1
        omega
      have HA1 : Hid (Nx (wr.alloc (.cells (nca x) EA)) wr.heap.size x) := heap_new wr _
      have HJ1 : Hid (J pre (wr.alloc (.cells (nca x) EA))) := (HJ.out pre).alloc _ HJp.out
      have HO1 : Hid (OA (wr.alloc (.cells (nca x) EA)) W.heap.size EA (.slice (some ⟨g, 0, none⟩) m1.length c) m1) := HO.out.below (bel_box _ _)
      have HE2 : Hid (BD l d 0 = pre ++ x :: restS l (kidsS l x.2.1 (x.1 + 1) ++ t)) := by show _ = _; rw [HE.out, rest_step HV.out HR.out]
      have HR2 := Lib.hid (rch_step HV.out HR.out)
      have HK2 : Hid ((restS l (kidsS l x.2.1 (x.1 + 1) ++ t)).length + 1 ≤ gk) := by have := HK.out; rw [rest_step HV.out HR.out, List.length_cons] at this; exact this
      have HFx := Lib.hid (reach_fit HV.out HR.out)
      have hxi : (x.1 : Int) ≤ 400000 := by have := HFx.out.2; have := HL.out; omega
      have HWb : Hid (W.heap.size ≤ (wr.alloc (.cells (nca x) EA)).heap.size ∧ W.heap.size ≤ wr.heap.size ∧ g < wr.heap.size ∧ W.heap.size ≤ g) := ⟨by have := HW.out; simp; omega, HW.out, (HO.out.lt g rfl).2, (HO.out.lt g rfl).1⟩
      obtain ⟨fn, tmps, assign, body, hy, hR⟩ := HY.out pre x _ HJ1.out (by rw [HE2.out]; exact ⟨restS l (kidsS l x.2.1 (x.1 + 1) ++ t), by simp⟩)
      have HRr := Lib.hid hR
      clear hR hm1 hm2 hrow hcc hax HRw hx HE HR HK HJp HO
      generalize m1.length = q at *
      subst hml
      gi_wp2_with fail
      refine HRr.out.mono ?_
      rintro e A3 ⟨hkp, ⟨rfl, hj⟩ | ⟨rfl, hxx⟩⟩
      · have HO3 := Lib.hid (own_kp HO1.out (Nat.le_refl _) hkp)
        have HA3 : Hid (Nx A3 wr.heap.size x) := hkp.2 _ _ EA _ HWb.out.2.1 (by simp) HA1.out
        have HQ3 := Lib.hid (HQ.out _ _ hj)
        have hcap : (t.length : Int) + 1 ≤ (c : Int) := by have := HO3.out.r.2.2.1; omega
        have hcap2 : (t.length : Int) ≤ (c : Int) := by omega
        have HJd := Lib.hid ((HJ.out _).drew hj)
        have HSd : Hid (Sq Bm m wr.heap.size x A3.drew) := ⟨HQ3.out.2.1.keep ((Below.refl _ _).drew), HA3.out.keep ((Below.refl _ _).drew)⟩
        have HFd := Lib.hid (HQ3.out.1.keep ((Below.refl _ _).drew))
        have HOd : Hid (OA A3.drew W.heap.size EA (.slice (some ⟨g, 0, none⟩) t.length c) t.reverse) := by
          have h1 := (HO3.out.below ((Below.refl _ _).drew)).take t.length (by rw [HM.out]; simp)
          rw [HM.out, show t.length = t.reverse.length by simp, List.take_left] at h1
          show OA _ _ _ _ _
          simpa using h1
        have HWd : Hid (W.heap.size ≤ A3.drew.heap.size) := Nat.le_trans HWb.out.1 hkp.1.size
        have a1 := Lib.hid (fun w (h : Sq Bm m wr.heap.size x w) => load_tree2 h.1)
        have a2 := Lib.hid (fun w (h : Sq Bm m wr.heap.size x w) => load_nxd h.2)
        have a3 := Lib.hid (fun w (h : Sq Bm m wr.heap.size x w) => load_nxk h.2)
        clear hkp hj HRr hy HO3 HA3 HQ3 HA1 HO1 HJ1 q0 q1 q2 q3 q4 q5 q6
        gi_wp2
        refine Sch.wpIn_region_tn (Sq Bm m wr.heap.size x) (.val 0 (.val 1 (.val 2 (.val 3 (.val 4 (.val 5 (.val 6 (.val 7 (.val 8 (.val 9 (.one 10 (.val 11 .done)))))))))))) (by kernel_rfl) (by kernel_rfl) HSd.out ?_
        repeat (first
          | (refine Sch.tw_q rfl rfl rfl (fun K hK => ?_); go_big_quiet_op; (first | refine hK _ ?_ | refine ⟨_, fun _ _ => rfl, hK _ ?_⟩); clear hK K)
          | (refine Sch.tw_chk _ _ _ rfl rfl rfl rfl rfl ?_; simp only [Act.put, List.setIfInBounds_toArray, List.set_cons_zero, List.set_cons_succ])
          | (refine Sch.tw_load _ _ _ _ _ rfl rfl rfl rfl (by first | exact a1.out | exact a2.out | exact a3.out) rfl ?_; simp only [Act.put, List.setIfInBounds_toArray, List.set_cons_zero, List.set_cons_succ]))
        generalize A3.drew = w4 at *
        have HB4 := Lib.hid (HBef.out t.reverse (.slice (some ⟨g, 0, none⟩) t.length c) x.2.1 (x.1 + 1) w4 HFd.out HOd.out HFx.out.1 HWd.out (by rw [List.length_reverse]; have := HL.out; omega) (by omega))
        rw [show ((x.1 + 1 : Nat) : Int) = (x.1 : Int) + 1 by simp] at HB4
        clear a1 a2 a3
        refine Sch.tw_e rfl rfl (fun K hK => ?_)
        gi_wp2_with fail
        refine ⟨trivial, HB4.out.mono ?_⟩
        rintro e A5 ⟨v5, rfl, ho5, hg5, -⟩
        have HJ5 : Hid (J (pre ++ [x]) A5) := HJ.out _ _ _ _ HJd.out hg5 fun r e => by
          cases e
          obtain ⟨vs, hr⟩ := HOd.out.obj g rfl
          exact ⟨HWb.out.2.2.2, _, hr, .inr ⟨_, _, _, rfl, by simp⟩⟩
        have HS5 : Hid (Sq Bm m wr.heap.size x A5) := ⟨(HQ.out _ _ HJ5.out).2.1, (hg5.block _ (Array.getElem?_eq_some_iff.1 HSd.out.2).1 (fun e => by have h9 := HWb.out.2.2.1; have h10 : wr.heap.size = g := Option.some.inj e; rw [h10] at h9; exact absurd h9 (Nat.lt_irrefl _))).trans HSd.out.2⟩
        have HO5 : Hid (OA A5 W.heap.size EA v5 (kidsS l x.2.1 (x.1 + 1) ++ t).reverse) := by
          show OA _ _ _ _ _
          rw [List.reverse_append]
          exact ho5
        have HW5 : Hid (W.heap.size ≤ A5.heap.size) := Nat.le_trans HWd.out hg5.size
        clear ho5 hg5 HB4 HSd HJd HOd HFd HWd
        refine hK _ _ HS5.out ?_
        clear hK K
        repeat (first
          | (refine Sch.tw_q rfl rfl rfl (fun K hK => ?_); go_big_quiet_op; (first | refine hK _ ?_ | refine ⟨_, fun _ _ => rfl, hK _ ?_⟩); clear hK K)
          | (refine Sch.tw_chk _ _ _ rfl rfl rfl rfl rfl ?_; simp only [Act.put, List.setIfInBounds_toArray, List.set_cons_zero, List.set_cons_succ]))
        refine Sch.tw_n ?_
        gi_wp2
        gi_roundg ((restS l (kidsS l x.2.1 (x.1 + 1) ++ t)).length)
        case rel => exact ⟨kidsS l x.2.1 (x.1 + 1) ++ t, pre ++ [x], by show _ = _; rw [HE2.out]; simp, HR2, HO5, HJ5, HW5, Nat.le_refl _⟩
        case measure => have := HK2.out; omega
      · have HX3 := Lib.hid hxx
        clear hkp hxx HRr hy
        gi_wp2
        exact ⟨_, results_none rfl _ _ _, ⟨_, rfl⟩, .inr HX3.out⟩
end Go.Proofs.Yteojbekkbgcmnab.Un
end

/-
  Ranges that collect: a box with a row of the call's own; the tree's iterators, below and all.
-/
section
namespace Go.Proofs.Yteojbekkbgcmnab.Un
set_option linter.unusedVariables false
open Go.RowKit V Go.Shelf D Nd Qs Wk
attribute [local go_sem] Oper.semAt_some

/-- What has been collected so far: all that was is as it was; the box G has a row of the call's own. -/
def Cj (w : World) (base G : Nat) (tS E : TypeId) (size n : Nat) (xs : List Value) (A : World) : Prop := Below w.heap.size w A ∧ ∃ v, Bx A G v tS ∧ A.ownsRow base E size v n xs
theorem Cj.abF {tys : List TypeId} {w : World} {base G B size n : Nat} {tS E : TypeId} {xs : List Value} (hB : w.heap.size ≤ B) (h1 : tS ∉ tys) (h2 : E ∉ tys) : AbF tys B (Cj w base G tS E size n xs) := fun A A' row ha hg hr => by
  obtain ⟨h3, v, h4, h5⟩ := ha
  exact ⟨below_abF hB A A' row h3 hg hr, v, Bx.abF h1 A A' row h4 hg hr, own_abF h2 A A' row h5 hg hr⟩
theorem Qb.keep {w w' : World} {m b1 b2 : Nat} {d : Dt} {l : List Nt} (h : Qb m b1 b2 d l w) (hb : Below w.heap.size w w') : Qb m b1 b2 d l w' := ⟨h.1.keep hb, h.2.1.keep hb, h.2.2.keep hb⟩
theorem Fo.obj {w : World} {m : Nat} {l : List Nt} (h : Fo w m l) : ∃ es c, w.heap[m]? = some (.map es c) := by
  obtain ⟨f, ⟨D, ⟨es, clock, hb, -⟩, -⟩, -⟩ := h
  exact ⟨es, clock, hb⟩
theorem Qb.turn {A A' : World} {m b1 b2 : Nat} {d : Dt} {l : List Nt} {row : Option Nat} (h : Qb m b1 b2 d l A) (hg : A.grownBy A' row) (hr : ∀ r, row = some r → r ≠ b1 ∧ r ≠ b2 ∧ ∃ vs t fr, A.heap[r]? = some (.cells vs t fr) ∧ t ≠ 117 ∧ t ≠ 125) : Qb m b1 b2 d l A' := by
  refine ⟨h.1.turn hg (fun e => ?_) fun r e => ?_, h.2.1.gb hg fun e => (hr b1 e.symm).1 rfl, (hg.block b2 h.2.2.lt fun e => (hr b2 e.symm).2.1 rfl).trans h.2.2⟩
  · obtain ⟨-, -, vs, t, fr, k1, -⟩ := hr m e
    obtain ⟨es, c, k2⟩ := h.1.obj
    rw [k1] at k2
    cases k2
  · obtain ⟨-, -, vs, t, fr, k1, k2, k3⟩ := hr r e
    exact ⟨_, k1, fun vs' t' fr' e2 => by cases e2; exact ⟨k2, k3⟩⟩
theorem Qb.abF {m b1 b2 B : Nat} {d : Dt} {l : List Nt} (hm : m < B) : AbF [EA] B (Qb m b1 b2 d l) := fun A A' row ha hg hr => ⟨Fo.abF hm (by decide) (by decide) A A' row ha.1 hg hr, Bx.abF (by decide) A A' row ha.2.1 hg hr, Bd.abF (by decide) A A' row ha.2.2 hg hr⟩
theorem row_ne {A : World} {base size n b : Nat} {v u : Value} {E t : TypeId} {xs : List Value} (h : A.ownsRow base E size v n xs) (hb : Bx A b u t) (ht : t ≠ E) : some b ≠ v.ownBlock := fun e => by
  rcases h.2 with ⟨rfl, -⟩ | ⟨g, cap, cur, rfl, hbb, hgg, -⟩
  · cases e
  · have e2 : b = g := Option.some.inj e
    subst e2
    unfold Bx at hb
    rw [hgg] at hb
    cases hb
    exact ht rfl
theorem row_below {A A' : World} {base size n : Nat} {v : Value} {E : TypeId} {xs : List Value} (h : A.ownsRow base E size v n xs) (hb : Below A.heap.size A A') : A'.ownsRow base E size v n xs := World.ownsRow.kept h (gb_below hb none) (by rcases v.ownBlock with _ | x <;> simp)
/-- One element more has been laid. -/
theorem Cj.step {ks : List TypeId} {w A A2 : World} {base G C size n n2 : Nat} {tS E : TypeId} {xs xs2 : List Value} {v v2 : Value} {o : Obj} (hw : Below w.heap.size w A) (hwb : w.heap.size ≤ base) (hG : w.heap.size ≤ G) (hb : Bx A G v tS) (ho : A.ownsRow base E size v n xs) (hE : E ∉ ks) (hT : tS ∉ ks) (hne : tS ≠ E)
    (hg : (A.alloc o).grownBy A2 v.ownBlock) (ho2 : A2.ownsRow base E size v2 n2 xs2) :
    Cj w base G tS E size n2 xs2 (A2.setCell ⟨G, 0, none⟩ v2) ∧ Kp ks C A (A2.setCell ⟨G, 0, none⟩ v2) ∧ Bx A2 G v tS := by
  have hba := bel_box A o
  have h1 := hb.keep hba
  have h2 := row_below ho hba
  have hx : Bx A2 G v tS := h1.gb hg (row_ne h2 h1 hne)
  have hs := gb_setCell A2 G 0 v2
  have hn2 := row_ne ho2 hx hne
  refine ⟨⟨?_, v2, hx.set v2, World.ownsRow.kept ho2 hs ?_⟩, ((Kp.bel hba).trans (Kp.own h2 hE hg)).trans (Kp.gb hs hx hT), hx⟩
  · refine bel_low (bel_low (bel_tr hw hba) hg fun x e => Nat.le_trans hwb (World.ownsRow.lt ho x e).1) hs fun x e => ?_
    cases e
    exact hG
  · rcases hv : v2.ownBlock with _ | y
    · exact .inl rfl
    · rw [hv] at hn2; exact .inr fun e => hn2 e.symm
/-- As Cj.step: what the iterator needs stays. -/
theorem Qb.step {A A2 : World} {base G size n : Nat} {tS E : TypeId} {xs : List Value} {v v2 : Value} {o : Obj} {m b1 b2 : Nat} {d : Dt} {l : List Nt} (h : Qb m b1 b2 d l A) (hb : Bx A G v tS) (ho : A.ownsRow base E size v n xs) (hne : tS ≠ E)
    (hS : tS ≠ TT ∧ tS ≠ 34 ∧ tS ≠ 117 ∧ tS ≠ 125) (hE : E ≠ TT ∧ (E ≠ 34 ∨ b2 < base) ∧ E ≠ 117 ∧ E ≠ 125)
    (hg : (A.alloc o).grownBy A2 v.ownBlock) : Qb m b1 b2 d l (A2.setCell ⟨G, 0, none⟩ v2) := by
  have hba := bel_box A o
  have h1 := hb.keep hba
  have h2 := row_below ho hba
  have hx : Bx A2 G v tS := h1.gb hg (row_ne h2 h1 hne)
  have q1 := h.keep hba
  have q2 : Qb m b1 b2 d l A2 := q1.turn hg fun r e => by
    rcases h2.2 with ⟨rfl, -⟩ | ⟨g, cap, cur, rfl, hbb, hgg, -⟩
    · cases e
    · have e2 : g = r := Option.some.inj e
      subst e2
      refine ⟨?_, ?_, _, _, _, hgg, hE.2.2.1, hE.2.2.2⟩
      · rintro rfl
        have := q1.2.1
        unfold Bx at this
        rw [hgg] at this
        cases this
        exact hE.1 rfl
      · rintro rfl
        rcases hE.2.1 with k | k
        · have := q1.2.2
          unfold Bd at this
          rw [hgg] at this
          cases this
          exact k rfl
        · omega
  refine q2.turn (gb_setCell A2 G 0 v2) fun r e => ?_
  cases e
  refine ⟨?_, ?_, _, _, _, hx, hS.2.2.1, hS.2.2.2⟩
  · rintro rfl
    have := q2.2.1
    unfold Bx at this hx
    rw [hx] at this
    cases this
    exact hS.1 rfl
  · rintro rfl
    have := q2.2.2
    unfold Bd at this
    unfold Bx at hx
    rw [hx] at this
    cases this
theorem wpListIn_appN {F : Fence} {n : Nat} {P : Program} {w : World} {ops : Array Oper} {rest : List Oper} {x : Oper} {a : Act} {Q : Exit → Act → World → Prop} (hgd : x.guard = none) (s y : Operand) (T : TypeId)
    (ho : x.op = .call { callee := .builtin .append, args := #[s, y], argTypes := #[T, T] })
    {base : Nat} {E : TypeId} (hT : P.underlying T = some (.slice E)) (hinfo : (P.info? E).map (fun i => (i.zero, i.size, i.bytes)) = some (some zeroNv, 6, 48))
    (v : Value) (l : List Nt) (hs : a.eval s = v) (h : ON w base E v l) (ad : Option Addr) (m : List Nt) (c n' : Nat) (hn : n' = m.length) (hx : a.eval y = .slice ad n' c) (hrow : RowN w ad m) (hnil : ad = none → c = 0)
    (hlen : l.length + m.length ≤ 1000000000000) (hbase : base ≤ w.heap.size)
    (hk : ∀ v' w', ON w' base E v' (l ++ m) → w.grownBy w' v.ownBlock → G.Grew w v v' → wpListIn F n P ops Q rest (a.put x.dst v') w') : wpListIn F n P ops Q (x :: rest) a w := by
  subst hn
  obtain ⟨v', w', hr, h2, h3, h4⟩ := run_appN hT hinfo h x.type ad m c hrow hnil hlen hbase
  refine wpListIn_plain hgd fun K hK => ?_
  unfold Oper.wpIn
  refine ⟨by simp [Oper.about, ho, resolve, Target.leads, Sem.run_pure], ?_⟩
  rw [Oper.semAt_plain F _ _ (by rw [ho]; intro c hc'; cases hc')]
  simp [execOp, ho, resolve, invoke, builtin, hs, hx, hr, Result.andThen]
  exact hK _ _ (hk v' w' h2 h3 h4)
theorem wpListIn_appD {F : Fence} {n : Nat} {P : Program} {w : World} {ops : Array Oper} {rest : List Oper} {x : Oper} {a : Act} {Q : Exit → Act → World → Prop} (hgd : x.guard = none) (s y : Operand) (T : TypeId)
    (ho : x.op = .call { callee := .builtin .append, args := #[s, y], argTypes := #[T, T] })
    {base : Nat} {E : TypeId} (hT : P.underlying T = some (.slice E)) (hinfo : (P.info? E).map (fun i => (i.zero, i.size, i.bytes)) = some (some (.agg #[.int .i64 0, .int .i64 0]), 2, 16))
    (v : Value) (l : List Dt) (hs : a.eval s = v) (h : OD w base E v l) (ad : Option Addr) (m : List Dt) (c n' : Nat) (hn : n' = m.length) (hx : a.eval y = .slice ad n' c) (hrow : RowD w ad m) (hnil : ad = none → c = 0)
    (hlen : l.length + m.length ≤ 1000000000000) (hbase : base ≤ w.heap.size)
    (hk : ∀ v' w', OD w' base E v' (l ++ m) → w.grownBy w' v.ownBlock → G.Grew w v v' → wpListIn F n P ops Q rest (a.put x.dst v') w') : wpListIn F n P ops Q (x :: rest) a w := by
  subst hn
  obtain ⟨v', w', hr, h2, h3, h4⟩ := run_appD hT hinfo h x.type ad m c hrow hnil (by omega) hbase
  refine wpListIn_plain hgd fun K hK => ?_
  unfold Oper.wpIn
  refine ⟨by simp [Oper.about, ho, resolve, Target.leads, Sem.run_pure], ?_⟩
  rw [Oper.semAt_plain F _ _ (by rw [ho]; intro c hc'; cases hc')]
  simp [execOp, ho, resolve, invoke, builtin, hs, hx, hr, Result.andThen]
  exact hK _ _ (hk v' w' h2 h3 h4)
theorem infoN : (Try.prog.info? 37).map (fun i => (i.zero, i.size, i.bytes)) = some (some zeroNv, 6, 48) := by kernel_rfl
theorem infoD : (Try.prog.info? 34).map (fun i => (i.zero, i.size, i.bytes)) = some (some (.agg #[.int .i64 0, .int .i64 0]), 2, 16) := by kernel_rfl

/-- An iterator over all below a dot. -/
def Ib (w : World) (m : Nat) (l : List Nt) (d : Dt) (e : Ending) (w' : World) : Prop :=
  ∃ b1 b2 : Nat, e = .returned (.func (.func 96) #[] #[.pointer (some ⟨b1, 0, none⟩), .pointer (some ⟨b2, 0, none⟩)]) ∧ Qb m b1 b2 d l w' ∧ Below w.heap.size w w'
theorem enters_below : ∀ args w, (callFunc 96 args).run Try.prog w = .ok (.enter 96 args) w := enters_of Try.func96 (by kernel_rfl) rfl
set_option maxRecDepth 100000 in
theorem tbelow_any (m : Nat) (l : List Nt) (d : Dt) (w : World) (h : Fo w m l) : Calls Try.prog 89 #[.map (some m), dv d] w fun e w' => Ib w m l d e w' := by
  have hmf : ∀ (fn : Fn) (first cap : Array Value) (w : World), (Instr.makeFunc fn first cap).run Try.prog w = .ok (.func fn first cap) w := fun _ _ _ _ => rfl
  have h1 : (w.alloc (.cells #[.map (some m)] 101)).heap.size = w.heap.size + 1 := by simp
  have k1 := bd_new (w.alloc (.cells #[.map (some m)] 101)) d
  rw [h1] at k1
  have hb : Below w.heap.size w ((w.alloc (.cells #[.map (some m)] 101)).alloc (.cells #[.int .i64 d.1, .int .i64 d.2] 34)) := (bel_box _ _).alloc (by simp) _
  have HQ : Hid (Qb m w.heap.size (w.heap.size + 1) d l ((w.alloc (.cells #[.map (some m)] 101)).alloc (.cells #[.int .i64 d.1, .int .i64 d.2] 34))) := ⟨h.keep hb, (bx_new w _ _).keep (bel_box _ _), k1⟩
  have HB := Lib.hid hb
  clear h h1 k1 hb
  go_enter Try.func89, Try.ntmps89
  go_wp2_with fail
  go_ret
  exact ⟨_, _, rfl, HQ.out, HB.out⟩
set_option maxRecDepth 100000 in
theorem tall_any (m : Nat) (l : List Nt) (w : World) (h : Fo w m l) : Calls Try.prog 78 #[.map (some m)] w fun e w' => Ib w m l (0, 0) e w' := by
  have HC := Lib.hid (tbelow_any m l (0, 0) w h)
  clear h
  go_enter Try.func78, Try.ntmps78
  go_wp2_with fail
  refine HC.out.mono ?_
  rintro e w2 ⟨b1, b2, rfl, hq, hb⟩
  have HQ := Lib.hid hq
  have HB := Lib.hid hb
  clear hq hb HC
  go_wp2_with fail
  go_ret
  exact ⟨_, _, rfl, HQ.out, HB.out⟩
end Go.Proofs.Yteojbekkbgcmnab.Un
end

/-
  Order of the program.
-/
section
namespace Go.Proofs.Yteojbekkbgcmnab.Un
set_option linter.unusedVariables false
open Go.RowKit V Go.Shelf D Nd Qs Wk
attribute [local go_sem] Oper.semAt_some

def orderP (l : List Nt) : List Nt × Int := if validS l = true then (orderS l, 0) else ([], 2)
abbrev TN : TypeId := 22
abbrev EN : TypeId := 37
theorem make_cap_n (c : Nat) (hc : c ≤ 1000000) (w : World) :
    ∃ w', (Instr.makeSlice 22 (.int .i64 0) (.int .i64 (c : Int))).run Try.prog w = .ok (.slice (some ⟨w.heap.size, 0, none⟩) 0 c) w' ∧ ON w' w.heap.size EN (.slice (some ⟨w.heap.size, 0, none⟩) 0 c) [] ∧ Below w.heap.size w w' := by
  obtain ⟨i, hi, hz0, hz1, hz2⟩ := G.info_of infoN
  obtain ⟨w', h1, h2, h3⟩ := run_make_own (P := Try.prog) w w.heap.size 22 37 i zeroNv 6 Try.underlying22 hi hz0 hz1 .i64 .i64 c (by rw [hz2]; omega) (by unfold maxLen; omega) (Nat.le_refl _)
  exact ⟨w', h1, h2, (Below.refl _ _).grown h3 (Nat.le_refl _) (fun k hk => by cases hk)⟩
set_option maxRecDepth 100000 in
set_option maxHeartbeats 4000000 in
theorem order_prog (l : List Nt) (a : Option Addr) (c : Nat) (w : World) (hx : RowN w a l) (hlx : l.length ≤ 400000) :
    Calls Try.prog 65 #[.slice a l.length c] w fun e w' => ∃ v, e = .returned (.tuple #[v, .int .i64 (orderP l).2]) ∧ ON w' w.heap.size EN v (orderP l).1 ∧ Below w.heap.size w w' := by
  have HV := Lib.hid (validS_any l a c w hx (by omega))
  have HX := Lib.hid hx
  have hli : (l.length : Int) ≤ 400000 := by omega
  rcases hv : validS l with _ | _
  · have HE : Hid (orderP l = ([], 2)) := by show _ = _; unfold orderP; rw [hv]; rfl
    rw [hv] at HV
    clear hx hv
    generalize orderP l = R at *
    refine (callsIn_wide (n := 3)).1 ?_
    have HV2 := Lib.hid ((callsIn_wide (n := 2)).2 HV.out)
    refine callsIn_of_wp_marks Try.func65 rfl trivial ?_ rfl
    simp only [Try.ntmps65, List.size_toArray, List.length_cons, List.length_nil, Nat.reduceAdd, Nat.reduceSub, Array.replicate_succ, Array.replicate_zero, List.push_toArray, List.append_toArray, List.nil_append, List.cons_append]
    gi_wp2
    refine ⟨trivial, HV2.out.mono ?_⟩
    rintro e w2 ⟨rfl, hb⟩
    have HB := Lib.hid hb
    clear hb HV HV2
    gi_wp2
    refine retM (v := .tuple #[.slice none 0 0, .int .i64 2]) (by simp [results, Try.results65, go_sem]) rfl ?_
    exact ⟨_, by rw [HE.out], by rw [HE.out]; exact ON.nil _ _ _, HB.out⟩
  · have HE : Hid (orderP l = (orderS l, 0)) := by show _ = _; unfold orderP; rw [hv]; rfl
    have HVv := Lib.hid hv
    have HT := Lib.hid (fun (w : World) (h : RowN w a l) => (callsIn_wide (n := 2)).2 (treeOf_any l a c w hv h (by omega)))
    have HAl := Lib.hid (fun (m : Nat) (w : World) (h : Fo w m l) => (callsIn_wide (n := 2)).2 (tall_any m l w h))
    have HLn : Hid ((allD l).length ≤ l.length) := by show (BD l (0, 0) 0).length ≤ _; rw [bd_len]; exact bw_len hv (root_path l)
    rw [hv] at HV
    clear hx hv
    generalize orderP l = R at *
    refine (callsIn_wide (n := 3)).1 ?_
    have HV2 := Lib.hid ((callsIn_wide (n := 2)).2 HV.out)
    refine callsIn_of_wp_marks Try.func65 rfl trivial ?_ rfl
    simp only [Try.ntmps65, List.size_toArray, List.length_cons, List.length_nil, Nat.reduceAdd, Nat.reduceSub, Array.replicate_succ, Array.replicate_zero, List.push_toArray, List.append_toArray, List.nil_append, List.cons_append]
    gi_wp2
    refine ⟨trivial, HV2.out.mono ?_⟩
    rintro e w2 ⟨rfl, hb⟩
    have HB := Lib.hid hb
    have HX2 := Lib.hid (HX.out.keep hb)
    clear hb HV HV2
    obtain ⟨w3, hmk, ho3, hb3⟩ := make_cap_n l.length (by omega) w2
    have HO3 : Hid (ON w3 w.heap.size EN (.slice (some ⟨w2.heap.size, 0, none⟩) 0 l.length) []) := ho3.mono fun k hk => by cases hk; exact HB.out.size
    have HB3 := Lib.hid (bel_tr HB.out hb3)
    have HX3 := Lib.hid (HX2.out.keep hb3)
    clear ho3 hb3
    gi_wp2
    have HG := Lib.hid (bx_new w3 (.slice (some ⟨w2.heap.size, 0, none⟩) 0 l.length) TN)
    have hbx := bel_box w3 (.cells #[.slice (some ⟨w2.heap.size, 0, none⟩) 0 l.length] TN)
    replace HO3 := Lib.hid (HO3.out.below hbx)
    have HGw : Hid (w.heap.size ≤ w3.heap.size) := HB3.out.size
    replace HB3 := Lib.hid (bel_tr HB3.out hbx)
    replace HX3 := Lib.hid (HX3.out.keep hbx)
    clear hbx
    generalize w3.heap.size = G at *
    generalize w3.alloc (.cells #[.slice (some ⟨w2.heap.size, 0, none⟩) 0 l.length] TN) = w4 at *
    refine ⟨trivial, (HT.out _ HX3.out).mono ?_⟩
    rintro e w5 ⟨m, rfl, hf, hb⟩
    have HF := Lib.hid hf
    replace HG := Lib.hid (HG.out.keep hb)
    replace HO3 := Lib.hid (HO3.out.below hb)
    replace HB3 := Lib.hid (bel_tr HB3.out hb)
    clear hf hb HX3 HT
    gi_wp2
    refine ⟨trivial, (HAl.out _ _ HF.out).mono ?_⟩
    rintro e w6 ⟨b1, b2, rfl, hq, hb⟩
    have HQ := Lib.hid hq
    replace HG := Lib.hid (HG.out.keep hb)
    replace HO3 := Lib.hid (HO3.out.below hb)
    replace HB3 := Lib.hid (bel_tr HB3.out hb)
    have HSQ := Lib.hid (below_seq l HVv.out hlx m (0, 0) [] (root_path l) fit_root w6 b1 b2)
    clear hq hb HAl HF
    gi_wp2
    refine range_own (by decide) rfl enters_below rfl (allD l) (Qb m b1 b2 (0, 0) l) HSQ.out (fun _ => rfl) (fun pre A => Cj w w.heap.size G TN EN 6 (pre.map (·.2)).length (cellsN (pre.map (·.2))) A ∧ Qb m b1 b2 (0, 0) l A) (fun c A => False)
      (fun pre => (Cj.abF HB3.out.size (by decide) (by decide)).and (Qb.abF (Fo.lt HQ.out.1))) (fun c => AbF.const _) (fun pre A h => h.2) (fun c A h => h.elim) ⟨⟨HB3.out, _, HG.out, HO3.out⟩, HQ.out⟩ ?a1 (fun x A => A.alloc (.cells (nc x.2) 37)) (fun x b W => Nb W b x.2) (fun x W => ⟨bel_box _ _, Nb.new W x.2⟩) (fun x b A A' row => nb_row x.2 b A A' row) ?assign ?body ?done ?stop
    case assign =>
      intro l' y A K g hg hK
      gi_wp2
      rw [← hg]
      exact hK
    case body =>
      rintro l' pre y b A ⟨⟨h1, v1, h2, h3⟩, h4⟩ ⟨k0, k1, k2, k3, k4, k5⟩ hbl hpre
      have hpl := hpre.length_le
      rw [List.length_append] at hpl
      obtain ⟨m1, hm1⟩ : ∃ m1, m1 = pre.map (·.2) := ⟨_, rfl⟩
      obtain ⟨m2, hm2⟩ : ∃ m2, m2 = m1 ++ [y.2] := ⟨_, rfl⟩
      have hm3 : (pre ++ [y]).map (·.2) = m2 := by rw [hm2, hm1]; simp
      rw [← hm1] at h3
      rw [hm3]
      have hml : m1.length ≤ 400000 := by have := HLn.out; rw [hm1, List.length_map]; simp at hpl; omega
      have H3 : Hid (ON A w.heap.size EN v1 m1) := h3
      obtain ⟨a1, cc1, rfl, -, -, -, -⟩ := H3.out.row
      have c0 := h2.cell
      have H1 := Lib.hid h1
      have H2 := Lib.hid h2
      have H4 := Lib.hid h4
      have HM := Lib.hid hm2
      have HML := Lib.hid hml
      clear h1 h2 h3 h4 hpl hpre hm1 hm2 hm3 hml
      gi_wp2_with (
        gi_at_builtin
        refine wpListIn_appN rfl _ _ _ rfl Try.underlying22 infoN _ _ rfl (H3.out.below (bel_box _ _)) (some ⟨A.heap.size, 0, none⟩) [y.2] 1 1 rfl rfl (RowN.lit A [y.2] _ _ _ rfl) (fun h => by cases h) (by have := HML.out; simp only [List.length_cons, List.length_nil]; omega) (by have := H1.out.size; simp; omega) ?_
        intro v5 W5 ho5 hg5 hgr
        rw [← HM.out] at ho5
        obtain ⟨g1, g2, g3⟩ := Cj.step (ks := [EA]) (C := w6.heap.size) H1.out (Nat.le_refl _) HGw.out H2.out H3.out (by decide) (by decide) (by decide) hg5 ho5
        have g4 := Qb.step (v2 := v5) H4.out H2.out H3.out (by decide) (by decide) ⟨by decide, .inl (by decide), by decide, by decide⟩ hg5
        obtain ⟨a5, c5, rfl, -, -, -, -⟩ := ON.row ho5
        have G1 := Lib.hid g1
        have G2 := Lib.hid g2
        have G4 := Lib.hid g4
        have c3 := g3.cell
        have f3 := g3.free
        clear g1 g2 g3 g4 c0 ho5 hg5 hgr H1 H2 H3 H4)
      exact ⟨G2.out, G1.out, G4.out⟩
    case stop =>
      rintro D c A hD hf hK
      exact hf.elim
    case done =>
      rintro D A hD ⟨⟨h1, v1, h2, h3⟩, h4⟩ hK
      rw [all_snd] at h3
      have H3 : Hid (ON A w.heap.size EN v1 (orderS l)) := h3
      have c0 := h2.cell
      have H1 := Lib.hid h1
      have HK := Lib.hid hK
      clear h1 h2 h3 h4 hK
      gi_wp2
      refine retM1 (v := .tuple #[v1, .int .i64 0]) rfl HK.out (by simp [results, Try.results65, go_sem]) ?_
      have hDw : w.heap.size ≤ D := Nat.le_trans HB3.out.size hD
      exact ⟨v1, by rw [HE.out], by rw [HE.out]; exact (own_abF (tys := []) (B := 0) (by simp)).put _ H3.out (Nat.zero_le _) HK.out rfl, (below_abF (tys := []) (Nat.le_refl _)).put _ H1.out hDw HK.out rfl⟩
end Go.Proofs.Yteojbekkbgcmnab.Un
end

/-
  Children of the program.
-/
section
namespace Go.Proofs.Yteojbekkbgcmnab.Un
set_option linter.unusedVariables false
open Go.RowKit V Go.Shelf D Nd Qs Wk
attribute [local go_sem] Oper.semAt_some
attribute [local irreducible] Sch.heldN Sch.stepV Sch.stepE

def childP (l : List Nt) (d : Dt) : List Nt × Int := if (validS l && (rootR d || validR d)) = true then (childS l d, 0) else ([], 2)
theorem load_dotB {w : World} {b : Nat} {d : Dt} (h : Bd w b d) : (Instr.loadAt 34 (.pointer (some ⟨b, 0, none⟩))).run Try.prog w = .ok (dv d) w := by
  have h0 := h.c0
  have h1 := h.c1
  go_simp
theorem Tr.In.step {A A2 : World} {base G size n : Nat} {tS E : TypeId} {xs : List Value} {v v2 : Value} {o : Obj} {T : Tr} (h : T.In A) (hb : Bx A G v tS) (ho : A.ownsRow base E size v n xs) (hne : tS ≠ E)
    (hS : tS ≠ 125) (hE : E ≠ 125) (hg : (A.alloc o).grownBy A2 v.ownBlock) : T.In (A2.setCell ⟨G, 0, none⟩ v2) := by
  have hba := bel_box A o
  have h1 := hb.keep hba
  have h2 := row_below ho hba
  have hx : Bx A2 G v tS := h1.gb hg (row_ne h2 h1 hne)
  have q2 : T.In A2 := by
    have h0 := h.keep hba
    rcases h2.2 with ⟨rfl, -⟩ | ⟨g, cap, cur, rfl, hbb, hgg, -⟩
    · exact h0.keep (bel_none hg)
    · exact h0.turn hg hgg fun vs t fr e => by cases e; exact hE
  exact q2.turn (gb_setCell A2 G 0 v2) hx fun vs t fr e => by cases e; exact hS
end Go.Proofs.Yteojbekkbgcmnab.Un
end

/-
  path of the program's tree.
-/
section
namespace Go.Proofs.Yteojbekkbgcmnab.Un
set_option linter.unusedVariables false
open Go.RowKit V Go.Shelf D Nd Qs Wk
attribute [local go_sem] Oper.semAt_some
attribute [local irreducible] Sch.heldN Sch.stepV Sch.stepE Sch.heldX

abbrev TD : TypeId := 45
abbrev ED : TypeId := 34
/-- The path to a dot, if a node with it is reached. -/
def pathQ (l : List Nt) (d : Dt) : Option (List Dt) := if rootR d = true then none else pathS l (l.length + 1) d
theorem pathQ_some {l : List Nt} {d : Dt} {p : List Dt} (hr : rootR d = false) (h : Pt l d p) : pathQ l d = some p := by
  unfold pathQ
  rw [if_neg (by rw [hr]; decide)]
  exact pt_iff.1 h
theorem pathQ_none {l : List Nt} (hv : validS l = true) {d : Dt} (h : ∀ x ∈ orderS l, x.1 ≠ d) : pathQ l d = none := by
  unfold pathQ
  split
  · rfl
  · rename_i hr
    rcases hp : pathS l (l.length + 1) d with _ | p
    · rfl
    · exfalso
      rcases pt_inv (pt_iff.2 hp) with ⟨k, -⟩ | ⟨-, x, q, h1, -, -⟩
      · exact hr k
      · obtain ⟨h2, h3⟩ := at_some h1
        exact h x ((order_mem hv).2 ⟨h2, p, by rw [h3]; exact pt_iff.2 hp⟩) h3
theorem all_root {l : List Nt} (hv : validS l = true) {A : List At} {x : At} {B : List At} (h : allD l = A ++ x :: B) : rootR x.2.1 = false := by
  have hx : x.2 ∈ orderS l := by rw [← all_snd, h]; simp
  exact not_root ((validS_iff.1 hv).1 _ ((order_mem hv).1 hx).1)
theorem pfold_len {l : List Nt} (hv : validS l = true) {A B : List At} (h : allD l = A ++ B) : (A.foldl pathF []).length ≤ l.length := by
  rcases List.eq_nil_or_concat A with rfl | ⟨A', z, rfl⟩
  · simp
  · rw [List.concat_eq_append] at h ⊢
    obtain ⟨-, h2⟩ := all_path hv (A := A') (x := z) (B := B) (by simpa using h)
    rw [List.foldl_append]
    exact pt_len h2
theorem eql_yes {p q : Dt} (h : p = q) : ∀ w, Sem.run Try.prog (binOp .eql 34 (.agg #[.int .i64 p.1, .int .i64 p.2]) (.agg #[.int .i64 q.1, .int .i64 q.2])) w = .ok (.bool true) w := fun w => by
  have := eql_dot p q w
  rw [this]
  simp [h]
/-- A block with a node, wholly. -/
def Nw (w : World) (b : Nat) (x : Nt) : Prop := w.heap[b]? = some (.cells (nc x) 37 (0, 0))
theorem Nw.nb {w : World} {b : Nat} {x : Nt} (h : Nw w b x) : Nb w b x := by
  have hc : ∀ j, w.cell? ⟨b, j, none⟩ = (nc x)[j]? := fun j => by unfold Nw at h; simp only [World.cell?, h]; rfl
  exact ⟨hc 0, hc 1, hc 2, hc 3, hc 4, hc 5⟩
theorem Nw.keep {w w' : World} {b : Nat} {x : Nt} (h : Nw w b x) (hb : Below w.heap.size w w') : Nw w' b x := (hb.block b (Array.getElem?_eq_some_iff.1 h).1).trans h
theorem Nw.gb {w w' : World} {b : Nat} {x : Nt} {r : Option Nat} (h : Nw w b x) (hg : w.grownBy w' r) (hr : some b ≠ r) : Nw w' b x := (hg.block b (Array.getElem?_eq_some_iff.1 h).1 hr).trans h
theorem Nw.row (x : Nt) (b : Nat) (A A' : World) (row : Option Nat) (h : Nw A b x) (hg : A.grownBy A' row) (hr : ∀ r, row = some r → r < b) : Nw A' b x := h.gb hg fun e => by have := hr b e.symm; omega
theorem nw_row {A : World} {base size n b : Nat} {v : Value} {E : TypeId} {x : Nt} {xs : List Value} (h : A.ownsRow base E size v n xs) (hb : Nw A b x) (ht : 37 ≠ E) : some b ≠ v.ownBlock := fun e => by
  rcases h.2 with ⟨rfl, -⟩ | ⟨g, cap, cur, rfl, hbb, hgg, -⟩
  · cases e
  · have e2 : b = g := Option.some.inj e
    subst e2
    unfold Nw at hb
    rw [hgg] at hb
    cases hb
    exact ht rfl
theorem wpIn_app {F : Fence} {n : Nat} {P : Program} {w : World} {x : Oper} {a : Act} {K : Act → World → Prop} {Q : Exit → Act → World → Prop} (s y : Operand) (T : TypeId)
    (ho : x.op = .call { callee := .builtin .append, args := #[s, y], argTypes := #[T, T] }) (v u v' : Value) (w' : World) (hs : a.eval s = v) (hx : a.eval y = u) (hrun : (Builtin.append_ #[T, T] x.type #[v, u]).run P w = .ok v' w') (hk : K (a.put x.dst v') w') : x.wpIn F n P a w K Q := by
  unfold Oper.wpIn
  refine ⟨by simp [Oper.about, ho, resolve, Target.leads, Sem.run_pure], ?_⟩
  rw [Oper.semAt_plain F _ _ (by rw [ho]; intro c hc'; cases hc')]
  simp [execOp, ho, resolve, invoke, builtin, hs, hx, hrun, Result.andThen]
  exact hk
theorem bx_ne {w : World} {b c : Nat} {u v : Value} {s t : TypeId} (h : Bx w b u s) (k : Bx w c v t) (ht : s ≠ t) : b ≠ c := by
  rintro rfl
  unfold Bx at h k
  rw [h] at k
  cases k
  exact ht rfl
theorem bxd_ne {w : World} {b c : Nat} {u : Value} {s : TypeId} {d : Dt} (h : Bx w b u s) (k : Bd w c d) : b ≠ c := by
  rintro rfl
  unfold Bx at h
  unfold Bd at k
  rw [h] at k
  cases k
theorem tx_two {lr n : Nat} {P : Program} {ops : List Oper} {Q : Exit → Act → World → Prop} {S : World → Prop} {i j : Nat} {r s : Sch.Tn} {a : Act} {w : World} (h1 : Sch.heldX lr n P ops.toArray Q S (.one i r) a w) (h2 : Sch.heldX lr n P ops.toArray Q S (.one j s) a w) : Sch.heldX lr n P ops.toArray Q S (.two i r j s) a w := by
  unfold Sch.heldX at h1 h2 ⊢
  exact ⟨h1, h2⟩
theorem OD.take2 {w : World} {base : Nat} {E : TypeId} {a : Option Addr} {n c : Nat} {l : List Dt} (h : OD w base E (.slice a n c) l) (k : Nat) (hk : k ≤ l.length) : OD w base E (.slice a k c) (l.take k) := by
  have hx := h
  obtain ⟨a', c', e, -, hn, hc, hh⟩ := h.row
  simp only [Value.slice.injEq] at e
  obtain ⟨rfl, rfl, rfl⟩ := e
  rcases a with _ | x
  · obtain ⟨rfl, rfl⟩ := hn rfl
    have : k = 0 := by simpa using hk
    subst this
    exact OD.nil _ _ _
  · obtain ⟨e1, -⟩ := hh x rfl
    rw [e1] at hx ⊢
    unfold OD at hx ⊢
    have h2 := ownsRow_take hx hk
    rw [List.length_take, Nat.min_eq_left hk]
    have e3 : (cellsD l).take (k * 2) = cellsD (l.take k) := by
      clear hx h2 hn hc hh e1 h hk
      induction l generalizing k with
      | nil => simp [cellsD]
      | cons d t ih =>
        cases k with
        | zero => simp [cellsD]
        | succ k =>
          rw [show (k + 1) * 2 = k * 2 + 1 + 1 by omega, cellsD]
          simp only [List.take_succ_cons]
          rw [ih k]
          rfl
    rw [← e3]
    exact h2
/-- How a path, or none, is returned. -/
def PthV (w' : World) (base : Nat) (v : Value) (r : Option (List Dt)) : Prop := match r with | none => v = .slice none 0 0 | some p => OD w' base ED v p
/-- Between two rounds of the walk that looks for a dot. -/
def Jp (w : World) (base : Nat) (m b1 b2 : Nat) (d : Dt) (l : List Nt) (pre : List At) (A : World) : Prop :=
  Cj w base (w.heap.size + 1 + 1) TD ED 2 (pre.foldl pathF []).length (cellsD (pre.foldl pathF [])) A ∧ Qb m b1 b2 (0, 0) l A ∧ Bx A (w.heap.size + 1) (.slice none 0 0) TD ∧ Bd A w.heap.size d ∧ ∀ x ∈ pre, x.2.1 ≠ d
/-- Where it was found. -/
def Jf (w : World) (base : Nat) (m b1 b2 : Nat) (d : Dt) (l : List Nt) (A : World) : Prop :=
  Below w.heap.size w A ∧ Qb m b1 b2 (0, 0) l A ∧ ∃ v p, Bx A (w.heap.size + 1) v TD ∧ OD A base ED v p ∧ pathQ l d = some p
theorem Jp.abF {w : World} {base m b1 b2 B : Nat} {d : Dt} {l : List Nt} {pre : List At} (hB : w.heap.size ≤ B) (hm : m < B) : AbF [EA] B (Jp w base m b1 b2 d l pre) :=
  (Cj.abF hB (by decide) (by decide)).and ((Qb.abF hm).and ((Bx.abF (by decide)).and ((Bd.abF (by decide)).and (AbF.const _))))
theorem Jf.abF {w : World} {base m b1 b2 B : Nat} {d : Dt} {l : List Nt} (hB : w.heap.size ≤ B) (hm : m < B) : AbF [EA] B (Jf w base m b1 b2 d l) :=
  (below_abF hB).and ((Qb.abF hm).and (AbF.ex fun v => AbF.ex fun p => (Bx.abF (by decide)).and ((own_abF (by decide)).and (AbF.const _))))

end Go.Proofs.Yteojbekkbgcmnab.Un
end

/-
  Below of the program.
-/
section
namespace Go.Proofs.Yteojbekkbgcmnab.Un
set_option linter.unusedVariables false
open Go.RowKit V Go.Shelf D Nd Qs Wk
attribute [local go_sem] Oper.semAt_some

theorem sl_nil (w : World) : Sem.run Try.prog (binOp .eql 45 (.slice none 0 0) (.slice none 0 0)) w = .ok (.bool true) w := by kernel_rfl
theorem sl_some (g n c : Nat) (w : World) : Sem.run Try.prog (binOp .eql 45 (.slice (some ⟨g, 0, none⟩) n c) (.slice none 0 0)) w = .ok (.bool false) w := by kernel_rfl
def dotsB (l : List Nt) (d : Dt) : List Dt := (Bw l d).map (·.1)
def belowQ (l : List Nt) (d : Dt) : List Dt × Int := if rootR d = true then (dotsB l d, 0) else match pathQ l d with | none => ([], 9) | some _ => (dotsB l d, 0)
def belowP (l : List Nt) (d : Dt) : List Dt × Int := if (validS l && (rootR d || validR d)) = true then belowQ l d else ([], 2)
end Go.Proofs.Yteojbekkbgcmnab.Un
end

/-
  Path, Lost and All of the program.
-/
section
namespace Go.Proofs.Yteojbekkbgcmnab.Un
set_option linter.unusedVariables false
open Go.RowKit V Go.Shelf D Nd Qs Wk
attribute [local irreducible] Sch.heldN Sch.stepV Sch.stepE

def pR (o : Option (List Dt)) : List Dt × Int := match o with | none => ([], 9) | some p => (p, 0)
def pathP (l : List Nt) (d : Dt) : List Dt × Int := if (validS l && validR d) = true then pR (pathQ l d) else ([], 2)
def lostP (l : List Nt) : List Dt × Int := if validS l = true then (lostS l, 0) else ([], 2)
theorem root_valid (l : List Nt) : belowP l (0, 0) = if validS l = true then ((orderS l).map (·.1), 0) else ([], 2) := by
  unfold belowP belowQ
  rw [show rootR (0, 0) = true from rfl]
  cases validS l <;> rfl
theorem lost_minus {l : List Nt} (hv : validS l = true) : minusR (l.map (·.1)) ((orderS l).map (·.1)) = lostS l := by
  have hs := (validS_iff.1 hv).2
  refine (minus_eq (lost_fold l l [] srt_nil).1 fun d => ?_).symm
  rw [show List.foldl (lostF l) [] l = lostS l from rfl, mem_lost hs, List.mem_map, List.mem_map]
  constructor
  · rintro ⟨n, h1, h2, rfl⟩
    refine ⟨⟨n, h1, rfl⟩, ?_⟩
    rintro ⟨x, hx, e⟩
    obtain ⟨-, p, hp⟩ := (order_mem hv).1 hx
    rw [e] at hp
    exact h2 ⟨p, hp⟩
  · rintro ⟨⟨n, h1, rfl⟩, h2⟩
    exact ⟨n, h1, fun h => h2 ⟨n, (order_mem hv).2 ⟨h1, h⟩, rfl⟩, rfl⟩
theorem take_dots {l : List Nt} {k : Nat} (h : k < l.length) : (l.take (k + 1)).map (·.1) = (l.take k).map (·.1) ++ [l[k].1] := by
  rw [List.take_succ_eq_append_getElem h, List.map_append]
  rfl
theorem make_cap_d (c : Nat) (hc : c ≤ 1000000) (w : World) :
    ∃ w', (Instr.makeSlice 45 (.int .i64 0) (.int .i64 (c : Int))).run Try.prog w = .ok (.slice (some ⟨w.heap.size, 0, none⟩) 0 c) w' ∧ OD w' w.heap.size ED (.slice (some ⟨w.heap.size, 0, none⟩) 0 c) [] ∧ Below w.heap.size w w' := by
  obtain ⟨i, hi, hz0, hz1, hz2⟩ := G.info_of infoD
  obtain ⟨w', h1, h2, h3⟩ := run_make_own (P := Try.prog) w w.heap.size 45 34 i (.agg #[.int .i64 0, .int .i64 0]) 2 Try.underlying45 hi hz0 hz1 .i64 .i64 c (by rw [hz2]; omega) (by unfold maxLen; omega) (Nat.le_refl _)
  exact ⟨w', h1, h2, (Below.refl _ _).grown h3 (Nat.le_refl _) (fun k hk => by cases hk)⟩
end Go.Proofs.Yteojbekkbgcmnab.Un
end

/-
  All of the program.
-/
section
namespace Go.Proofs.Yteojbekkbgcmnab.Un
set_option linter.unusedVariables false
open Go.RowKit V Go.Shelf D Nd Qs Wk
attribute [local irreducible] Sch.heldN Sch.stepV Sch.stepE

def seenL (l : List Nt) : List Nt := if validS l = true then l else []
theorem ib_tr {w w1 : World} {m : Nat} {l : List Nt} {d : Dt} {e : Ending} {w' : World} (hb : Below w.heap.size w w1) (h : Ib w1 m l d e w') : Ib w m l d e w' := by
  obtain ⟨b1, b2, rfl, hq, h2⟩ := h
  exact ⟨b1, b2, rfl, hq, bel_tr hb h2⟩
end Go.Proofs.Yteojbekkbgcmnab.Un
end

/-
  What the laws call: each returns true.
-/
section
namespace Go.Proofs.Yteojbekkbgcmnab.Un
set_option linter.unusedVariables false
open Go.RowKit V Go.Shelf D Nd Qs Wk
attribute [local irreducible] Sch.heldN Sch.stepV Sch.stepE

theorem dotsS_all (l : List Nt) : dotsS l false = l.map (·.1) := by
  unfold dotsS
  have e : l.filter (fun n => !false || deadN n) = l := List.filter_eq_self.2 (fun x _ => rfl)
  rw [e]
theorem eqN_true (y : List Nt) (a b : Option Addr) (c d : Nat) (w : World) (hx : RowN w a y) (hy : RowN w b y) (hl : y.length ≤ 400000) :
    Calls Try.prog 15 #[.slice a y.length c, .slice b y.length d] w fun e w' => e = .returned (.bool true) ∧ Below w.heap.size w w' := by
  have h := equal_ref y y a b c d w hx hy (by omega) (by omega)
  rwa [decide_eq_true rfl] at h
theorem sameD_true (y : List Dt) (a b : Option Addr) (c d : Nat) (w : World) (hx : RowD w a y) (hy : RowD w b y) (hl : y.length ≤ 400000) :
    Calls Try.prog 46 #[.slice a y.length c, .slice b y.length d] w fun e w' => e = .returned (.bool true) ∧ Below w.heap.size w w' := by
  have h := same_ref y y a b c d w hx hy (by omega) (by omega)
  rwa [decide_eq_true rfl] at h
end Go.Proofs.Yteojbekkbgcmnab.Un
end

/-
  The reference's Path.
-/
section
namespace Go.Proofs.Yteojbekkbgcmnab.Un
set_option linter.unusedVariables false
open Go.RowKit V Go.Shelf D Nd Qs Wk
attribute [local irreducible] Sch.heldN Sch.stepV Sch.stepE

theorem first_idx (l : List Nt) (d : Dt) : ∀ n, n ≤ l.length → (∀ j (hj : j < l.length), j < n → l[j].1 ≠ d) ∨ ∃ k, ∃ hk : k < l.length, l[k].1 = d ∧ ∀ j (hj : j < l.length), j < k → l[j].1 ≠ d
  | 0, _ => .inl fun j hj h => by omega
  | n + 1, h => by
    rcases first_idx l d n (by omega) with h1 | h1
    · by_cases e : (l[n]'(by omega)).1 = d
      · exact .inr ⟨n, by omega, e, h1⟩
      · refine .inl fun j hj hjn => ?_
        by_cases ej : j = n
        · subst ej; exact e
        · exact h1 j hj (by omega)
    · exact .inr h1
/-- Where a dot stands. -/
theorem idx_cases (l : List Nt) (d : Dt) : (idxS l d = -1 ∧ atS l d = none) ∨ ∃ k, ∃ hk : k < l.length, idxS l d = (k : Int) ∧ atS l d = some l[k] := by
  rcases first_idx l d l.length (Nat.le_refl _) with h | ⟨k, hk, h1, h2⟩
  · exact .inl (idx_none fun j hj => h j hj hj)
  · exact .inr ⟨k, hk, (idx_hit hk h2 h1).1, (idx_hit hk h2 h1).2⟩
theorem OD.one (w : World) (d : Dt) (base : Nat) (hb : base ≤ w.heap.size) : OD (w.alloc (.cells #[.int .i64 d.1, .int .i64 d.2] ED)) base ED (.slice (some ⟨w.heap.size, 0, none⟩) 1 1) [d] :=
  ⟨rfl, .inr ⟨w.heap.size, 1, #[.int .i64 d.1, .int .i64 d.2], rfl, hb, heap_new w _, Nat.le_refl _, by decide, rfl, rfl⟩⟩
theorem bd_set {w : World} {g : Nat} {d : Dt} (h : Bd w g d) (e : Dt) : Bd ((w.setCell ⟨g, 0, none⟩ (.int .i64 e.1)).setCell ⟨g, 1, none⟩ (.int .i64 e.2)) g e := by
  unfold Bd at h ⊢
  simp [World.setCell, Array.getElem?_modify, h]
theorem gb_two (w : World) (g : Nat) (u v : Value) : w.grownBy ((w.setCell ⟨g, 0, none⟩ u).setCell ⟨g, 1, none⟩ v) (some g) := gb_trans (gb_setCell _ _ _ _) (gb_setCell _ _ _ _)
theorem bd_free {w : World} {g : Nat} {d : Dt} (h : Bd w g d) (o : Nat) : w.frozen? ⟨g, o, none⟩ = false := by unfold Bd at h; simp [World.frozen?, h]
theorem path_step {l : List Nt} {d : Dt} {x : Nt} (n : Nat) (out : List Dt) (hr : rootR d = false) (h : atS l d = some x) : (pathS l (n + 1) d).map (· ++ out) = (pathS l n x.2.1).map (· ++ ([d] ++ out)) := by
  show Option.map _ (if rootR d = true then some [] else match atS l d with | none => none | some x => (pathS l n x.2.1).map (· ++ [d])) = _
  rw [if_neg (by rw [hr]; decide), h]
  rcases hp : pathS l n x.2.1 with _ | p <;> simp [hp]
/-- What Path of the reference gives. -/
def pathR (l : List Nt) (d : Dt) : Option (List Dt) := pathS l (l.length + 1) d
end Go.Proofs.Yteojbekkbgcmnab.Un
end

/-
  The reference's Named, Children.
-/
section
namespace Go.Proofs.Yteojbekkbgcmnab.Un
set_option linter.unusedVariables false
open Go.RowKit V Go.Shelf D Nd Qs Wk
attribute [local irreducible] Sch.heldN Sch.stepV Sch.stepE

end Go.Proofs.Yteojbekkbgcmnab.Un
end

/-
  The reference's Children.
-/
section
namespace Go.Proofs.Yteojbekkbgcmnab.Un
set_option linter.unusedVariables false
open Go.RowKit V Go.Shelf D Nd Qs Wk
attribute [local irreducible] Sch.heldN Sch.stepV Sch.stepE

/-- The node at a place, the dot in a box. -/
def Pc (g b o : Nat) (d : Dt) (q : Nt) (w : World) : Prop := Na w b o q ∧ Bd w g d
section
variable {g b o : Nat} {d : Dt} {q : Nt}
theorem Pc.ldp : ∀ w, Pc g b o d q w → (Instr.loadAt 34 (.pointer (some ⟨b, o + 2, none⟩))).run Try.prog w = .ok (dv q.2.1) w := fun w h => by
  have h2 := h.1.2.2.1
  have h3 := h.1.2.2.2.1
  exact load_dot h2 h3
theorem Pc.ldd : ∀ w, Pc g b o d q w → (Instr.loadAt 34 (.pointer (some ⟨g, 0, none⟩))).run Try.prog w = .ok (.agg #[.int .i64 d.1, .int .i64 d.2]) w := fun w h => load_dotB h.2
end
/-- Two nodes at their places. -/
def Pn (b o b2 o2 : Nat) (p q : Nt) (w : World) : Prop := Na w b o p ∧ Na w b2 o2 q
section
variable {b o b2 o2 : Nat} {p q : Nt}
theorem Pn.ldp : ∀ w, Pn b o b2 o2 p q w → (Instr.loadAt 37 (.pointer (some ⟨b, o, none⟩))).run Try.prog w = .ok (nv p) w := fun w h => h.1.load
theorem Pn.ldq : ∀ w, Pn b o b2 o2 p q w → (Instr.loadAt 37 (.pointer (some ⟨b2, o2, none⟩))).run Try.prog w = .ok (nv q) w := fun w h => h.2.load
end
theorem child_take {l : List Nt} {k : Nat} (d : Dt) (h : k < l.length) : (l.take (k + 1)).foldl (childF d) [] = childF d ((l.take k).foldl (childF d) []) l[k] := by
  rw [List.take_succ_eq_append_getElem h, List.foldl_append]
  rfl
theorem childF_len (d : Dt) (o : List Nt) (n : Nt) : (childF d o n).length ≤ o.length + 1 := by
  unfold childF
  split
  · unfold insB
    have h := congrArg List.length (List.takeWhile_append_dropWhile (p := fun y => beforeN y n) (l := o))
    rw [List.length_append] at h
    rw [List.length_append, List.length_cons]
    omega
  · omega
theorem fold_len (d : Dt) (l : List Nt) : ∀ k, k ≤ l.length → ((l.take k).foldl (childF d) []).length ≤ k
  | 0, _ => by simp
  | k + 1, h => by
    rw [child_take d (by omega)]
    have h1 := childF_len d ((l.take k).foldl (childF d) []) (l[k]'(by omega))
    have h2 := fold_len d l k (by omega)
    omega
/-- Where a node is put in. -/
theorem insB_at {o : List Nt} {q : Nt} {m : Nat} (hm : m ≤ o.length) (h : ∀ j (hj : j < o.length), j < m → beforeN o[j] q = true) (h2 : m = o.length ∨ ∃ hj : m < o.length, beforeN o[m] q = false) : insB o q = o.take m ++ [q] ++ o.drop m := by
  induction o generalizing m with
  | nil =>
    obtain rfl : m = 0 := by simpa using hm
    rfl
  | cons x t ih =>
    cases m with
    | zero =>
      have hx : beforeN x q = false := by
        rcases h2 with h2 | ⟨_, h2⟩
        · simp at h2
        · exact h2
      unfold insB
      rw [List.takeWhile_cons, List.dropWhile_cons]
      simp [hx]
    | succ m =>
      have hx : beforeN x q = true := h 0 (by simp) (by omega)
      have hi := ih (m := m) (by simpa using hm) (fun j hj hjm => by have := h (j + 1) (by simpa using hj) (by omega); simpa using this) (by
        rcases h2 with h2 | ⟨h3, h2⟩
        · exact .inl (by simpa using h2)
        · exact .inr ⟨by simpa using h3, by simpa using h2⟩)
      unfold insB at hi ⊢
      rw [List.takeWhile_cons, List.dropWhile_cons, hx]
      simp only [if_true, List.cons_append, List.take_succ_cons, List.drop_succ_cons]
      rw [hi]
end Go.Proofs.Yteojbekkbgcmnab.Un
end

/-
  The reference's Children.
-/
section
namespace Go.Proofs.Yteojbekkbgcmnab.Un
set_option linter.unusedVariables false
open Go.RowKit V Go.Shelf D Nd Qs Wk
attribute [local irreducible] Sch.heldN Sch.stepV Sch.stepE

theorem cut_loN (a : Option Addr) (len cap n : Nat) (hn : n ≤ cap) : ∀ wx : World,
    (Instr.slice 22 (.slice a len cap) none (some (.int .i64 (n : Int))) none).run Try.prog wx = .ok (.slice a n cap) wx := by
  obtain ⟨i, hi, hz0, hz1, hz2⟩ := G.info_of infoN
  intro wx
  have h1 : (Instr.sliceBound (.int .i64 (n : Int)) cap .sliceAcap).run Try.prog wx = .ok n wx := by
    rw [run_sliceBound _ _ _ _ _ (by omega) (by omega)]; rfl
  have h0 : (⟨0, 0, none⟩ : Addr).add 0 = ⟨0, 0, none⟩ := rfl
  by_cases hc : cap = 0
  · rw [hc] at h1
    simp [Instr.slice, run_underlying Try.underlying22, Instr.sliceBounds, h1, Result.andThen, sizeOf, typeInfo, hi, hc]
  · have : a.map (fun x => x.add 0) = a := by
      rcases a with _ | ⟨b, o, s⟩
      · rfl
      · simp [Addr.add]
    simp [Instr.slice, run_underlying Try.underlying22, Instr.sliceBounds, h1, Result.andThen, sizeOf, typeInfo, hi, hc, this]
def offN (a : Option Addr) (cap m : Nat) : Option Addr := if cap = m then a else a.map (·.add (m * 6))
theorem cut_hiN (a : Option Addr) (len cap m k : Nat) (hk : len = m + k) (hlc : len ≤ cap) : ∀ wx : World,
    (Instr.slice 22 (.slice a len cap) (some (.int .i64 (m : Int))) none none).run Try.prog wx = .ok (.slice (offN a cap m) k (cap - m)) wx := by
  obtain ⟨i, hi, hz0, hz1, hz2⟩ := G.info_of infoN
  intro wx
  have h2 : (Instr.sliceBound (.int .i64 (m : Int)) len .sliceB).run Try.prog wx = .ok m wx := by
    rw [run_sliceBound _ _ _ _ _ (by omega) (by omega)]; rfl
  have e : len - m = k := by omega
  simp [Instr.slice, run_underlying Try.underlying22, Instr.sliceBounds, h2, Result.andThen, sizeOf, typeInfo, hi, hz1, e, offN]
theorem offN_row {w : World} {a : Option Addr} {l : List Nt} (h : RowN w a l) (cap m : Nat) (hlc : l.length ≤ cap) (hm : m ≤ l.length) : RowN w (offN a cap m) (l.drop m) := by
  unfold offN
  split
  · left
    rw [List.drop_eq_nil_iff]; omega
  · rcases h with rfl | ⟨b, o, rfl, hc⟩
    · exact .inl (by simp)
    · have e : (⟨b, o, none⟩ : Addr).add (m * 6) = ⟨b, o + m * 6, none⟩ := by unfold Addr.add; split <;> simp_all
      rw [Option.map_some, e]
      exact RowN.drop (w := w) (b := b) (o := o) (l := l) (.inr ⟨b, o, rfl, hc⟩) m hm
theorem offN_none {a : Option Addr} {cap m : Nat} (h : offN a cap m = none) : a = none := by
  unfold offN at h
  split at h
  · exact h
  · simpa using h
theorem wp_appN {P : Program} {w : World} {x : Oper} {a : Act} {K : Act → World → Prop} {Q : Exit → Act → World → Prop} (s y : Operand) (T : TypeId)
    (ho : x.op = .call { callee := .builtin .append, args := #[s, y], argTypes := #[T, T] })
    {base : Nat} {E : TypeId} (hT : P.underlying T = some (.slice E)) (hinfo : (P.info? E).map (fun i => (i.zero, i.size, i.bytes)) = some (some zeroNv, 6, 48))
    (v : Value) (l : List Nt) (hs : a.eval s = v) (h : ON w base E v l) (ad : Option Addr) (m : List Nt) (c n : Nat) (hn : n = m.length) (hx : a.eval y = .slice ad n c) (hrow : RowN w ad m) (hnil : ad = none → c = 0)
    (hlen : l.length + m.length ≤ 1000000000000) (hbase : base ≤ w.heap.size)
    (hk : ∀ v' w', ON w' base E v' (l ++ m) → w.grownBy w' v.ownBlock → G.Grew w v v' → K (a.put x.dst v') w') : x.wp P a w K Q := by
  subst hn
  obtain ⟨v', w', hr, h2, h3, h4⟩ := run_appN hT hinfo h x.type ad m c hrow hnil hlen hbase
  unfold Oper.wp execOp
  simp only [ho, resolve, invoke, builtin, Sem.run_bind, Sem.run_pure, Result.andThen_ok, List.map_toArray, List.map_cons, List.map_nil, hs, hx, hr]
  exact hk _ _ h2 h3 h4
theorem neqD_no {p q : Dt} (h : p = q) : ∀ w, Sem.run Try.prog (binOp .neq 34 (.agg #[.int .i64 p.1, .int .i64 p.2]) (.agg #[.int .i64 q.1, .int .i64 q.2])) w = .ok (.bool false) w := fun w => by
  subst h
  have := neq_dot p p w
  rwa [decide_eq_true rfl] at this
set_option maxRecDepth 100000 in
set_option maxHeartbeats 8000000 in
theorem child_ref (l : List Nt) (d : Dt) (a : Option Addr) (c : Nat) (w : World) (hx : RowN w a l) (hlx : l.length ≤ 400000) :
    Calls Try.prog 80 #[.slice a l.length c, dv d] w fun e w' => ∃ v, e = .returned v ∧ ON w' w.heap.size EN v (childS l d) ∧ Below w.heap.size w w' := by
  have HB := Lib.hid (bel_box w (.cells #[.int .i64 d.1, .int .i64 d.2] 34))
  have HD := Lib.hid (bd_new w d)
  have HX := Lib.hid hx
  have hli : (l.length : Int) ≤ 400000 := by omega
  have HL := Lib.hid hlx
  have HR0 : Hid (childS l d = (l.take l.length).foldl (childF d) []) := by show _ = _; rw [List.take_length]; rfl
  clear hx hlx
  generalize childS l d = R at *
  go_enter Try.func80, Try.ntmps80
  go_wp2_with fail
  have HS : Hid (w.heap.size < (w.alloc (.cells #[.int .i64 d.1, .int .i64 d.2] 34)).heap.size) := by show _ < _; simp
  generalize w.alloc (.cells #[.int .i64 d.1, .int .i64 d.2] 34) = w1 at *
  obtain ⟨B0, hB0⟩ : ∃ B0, B0 = w1.heap.size := ⟨_, rfl⟩
  rw [← hB0] at HS
  have HB0 := Lib.hid hB0
  clear hB0
  go_loopw [5, 6, 7] (fun v i _ wr => ∃ (k : Nat), k ≤ l.length ∧ i = .int .i64 (k : Int) ∧ Hid (B0 ≤ wr.heap.size) ∧ Hid (Below w.heap.size w wr) ∧ Hid (Bd wr w.heap.size d) ∧ Hid (ON wr B0 EN v ((l.take k).foldl (childF d) []))) (fun _ i _ _ => l.length - (intOf i).toNat)
  case atStart => exact ⟨0, Nat.zero_le _, rfl, by show B0 ≤ _; rw [HB0.out]; exact Nat.le_refl _, HB, HD, ON.nil _ _ _⟩
  case round =>
    obtain ⟨k, hk, rfl, HSz, HB, HD, HO⟩ := hrel
    by_cases hlt : k < l.length
    · have hi0 : (k : Int) < (l.length : Int) := by omega
      obtain ⟨b, o, rfl, hna⟩ := na_of (HX.out.keep HB.out) k hlt
      have HSt := Lib.hid (child_take d hlt)
      have HOl := Lib.hid (fold_len d l k (by omega))
      obtain ⟨q, hq⟩ : ∃ q, q = l[k] := ⟨_, rfl⟩
      rw [← hq] at hna HSt
      have HQ := Lib.hid hq
      clear hq
      generalize hOO : (l.take k).foldl (childF d) [] = O at *
      clear hOO
      have hd := (Below.refl wr.heap.size wr).drew
      have HP : Hid (Pc w.heap.size b (o + k * 6) d q wr.drew) := ⟨hna.keep hd, HD.out.keep hd⟩
      have HBd := Lib.hid (bel_tr HB.out hd)
      have HOd := Lib.hid (HO.out.below hd)
      have HSd : Hid (B0 ≤ wr.drew.heap.size) := Nat.le_trans HSz.out hd.size
      have hx0 := ixN b o l.length c k (k : Int) rfl hlt
      clear hd hna HB HD HO HSz
      by_cases hp : q.2.1 = d
      · have hnq := neqD_no hp
        have HPq := Lib.hid hp
        clear hp
        go_wp2_with fail
        refine Sch.wp_region_tn (Pc w.heap.size b (o + k * 6) d q) (.val 0 (.val 1 (.val 2 (.val 3 (.val 4 (.val 5 (.val 6 .done))))))) (by kernel_rfl) (by kernel_rfl) HP.out ?_
        repeat (first
          | (refine Sch.tn_q rfl rfl rfl (fun K hK => ?_); go_big_quiet_op; (first | refine hK _ ?_ | refine ⟨_, fun _ _ => rfl, hK _ ?_⟩); clear hK K)
          | (refine Sch.tn_chk _ _ _ rfl rfl rfl rfl rfl ?_; simp only [Act.put, List.setIfInBounds_toArray, List.set_cons_zero, List.set_cons_succ])
          | (refine Sch.tn_load _ _ _ _ _ rfl rfl rfl rfl (by first | exact Pc.ldp | exact Pc.ldd) rfl ?_; simp only [Act.put, List.setIfInBounds_toArray, List.set_cons_zero, List.set_cons_succ]))
        refine Sch.tn_n ?_
        generalize wr.drew = w2 at *
        obtain ⟨aO, cO, rfl, -⟩ := ON.row HOd.out
        have HD := Lib.hid HP.out.2
        clear HP hnq
        go_wp2_with fail
        go_loopw [7] (fun i wx => ∃ m : Nat, m ≤ O.length ∧ i = .int .i64 (m : Int) ∧ Hid (∀ j (hj : j < O.length), j < m → beforeN O[j] q = true) ∧ Hid (B0 ≤ wx.heap.size) ∧ Hid (Below w.heap.size w wx) ∧ Hid (Bd wx w.heap.size d) ∧ Hid (ON wx B0 EN (.slice aO O.length cO) O)) (fun i _ => O.length - (intOf i).toNat)
        case atStart => exact ⟨0, Nat.zero_le _, rfl, fun j hj h => by omega, HSd, HBd, HD, HOd⟩
        case round =>
          obtain ⟨m, hm, rfl, HV, HSz, HB, HD, HO⟩ := hrel
          have hOi : (O.length : Int) ≤ 400000 := by have := HOl.out; have := HL.out; omega
          by_cases hml : m < O.length
          · have hmi : (m : Int) < (O.length : Int) := by omega
            obtain ⟨aO1, cO1, he, hrO, -⟩ := ON.row HO.out
            cases he
            obtain ⟨b2, o2, rfl, hnp⟩ := na_of hrO m hml
            obtain ⟨b9, o9, he9, hna9⟩ := na_of (HX.out.keep HB.out) k hlt
            cases he9
            rw [← HQ.out] at hna9
            have hx2 := ixN b2 o2 O.length cO m (m : Int) rfl hml
            have HBf := Lib.hid (fun w => before_ref9 (O[m]) q w)
            have HVn : Hid (beforeN O[m] q = true → ∀ j (hj : j < O.length), j < m + 1 → beforeN O[j] q = true) := fun h j hj hjm => by
              by_cases e : j = m
              · subst e; exact h
              · exact HV.out j hj (by omega)
            obtain ⟨p, hpp⟩ : ∃ p, p = O[m] := ⟨_, rfl⟩
            have HPm : Hid (p = O[m]) := hpp
            rw [← hpp] at hnp HBf HVn
            clear hpp hrO
            have hd := (Below.refl wr.heap.size wr).drew
            have HPn : Hid (Pn b2 (o2 + m * 6) b (o + k * 6) p q wr.drew) := ⟨hnp.keep hd, hna9.keep hd⟩
            replace HSz : Hid (B0 ≤ wr.drew.heap.size) := Nat.le_trans HSz.out hd.size
            replace HB := Lib.hid (bel_tr HB.out hd)
            replace HD := Lib.hid (HD.out.keep hd)
            replace HO := Lib.hid (HO.out.below hd)
            clear hd hnp hna9
            go_wp2_with fail
            refine Sch.wp_region_tn (Pn b2 (o2 + m * 6) b (o + k * 6) p q) (.val 0 (.val 1 (.val 2 (.val 3 (.val 4 (.val 5 (.val 6 (.val 7 (.val 8 (.val 9 (.val 10 (.val 11 (.val 12 (.one 13 (.val 14 .done))))))))))))))) (by kernel_rfl) (by kernel_rfl) HPn.out ?_
            repeat (first
              | (refine Sch.tn_q rfl rfl rfl (fun K hK => ?_); go_big_quiet_op; (first | refine hK _ ?_ | refine ⟨_, fun _ _ => rfl, hK _ ?_⟩); clear hK K)
              | (refine Sch.tn_chk _ _ _ rfl rfl rfl rfl rfl ?_; simp only [Act.put, List.setIfInBounds_toArray, List.set_cons_zero, List.set_cons_succ])
              | (refine Sch.tn_load _ _ _ _ _ rfl rfl rfl rfl (by first | exact Pn.ldp | exact Pn.ldq) rfl ?_; simp only [Act.put, List.setIfInBounds_toArray, List.set_cons_zero, List.set_cons_succ]))
            repeat (first
              | (refine Sch.tn_q rfl rfl rfl (fun K hK => ?_); go_big_quiet_op; (first | refine hK _ ?_ | refine ⟨_, fun _ _ => rfl, hK _ ?_⟩); clear hK K)
              | (refine Sch.tn_chk _ _ _ rfl rfl rfl rfl rfl ?_; simp only [Act.put, List.setIfInBounds_toArray, List.set_cons_zero, List.set_cons_succ])
              | (refine Sch.tn_load _ _ _ _ _ rfl rfl rfl rfl (by first | exact Pn.ldp | exact Pn.ldq) rfl ?_; simp only [Act.put, List.setIfInBounds_toArray, List.set_cons_zero, List.set_cons_succ])
              | (refine Sch.tn_s _ rfl rfl rfl ?_; simp only [Act.put, List.setIfInBounds_toArray, List.set_cons_zero, List.set_cons_succ])
              | (refine Sch.tn_se _ rfl rfl rfl ?_; simp only [Act.put, List.setIfInBounds_toArray, List.set_cons_zero, List.set_cons_succ]))
            generalize wr.drew = w3 at *
            refine Sch.tn_e rfl rfl (fun K hK => ?_)
            go_wp2_with fail
            refine (HBf.out _).mono ?_
            rintro e wx ⟨rfl, hb⟩
            replace HPn : Hid (Pn b2 (o2 + m * 6) b (o + k * 6) p q wx) := ⟨HPn.out.1.keep hb, HPn.out.2.keep hb⟩
            replace HSz : Hid (B0 ≤ wx.heap.size) := Nat.le_trans HSz.out hb.size
            replace HB := Lib.hid (bel_tr HB.out hb)
            replace HD := Lib.hid (HD.out.keep hb)
            replace HO := Lib.hid (HO.out.below hb)
            clear hb HBf
            refine hK _ _ HPn.out ?_
            clear hK K
            rcases hbf : beforeN p q with _ | _
            · skip
              repeat (first
                | (refine Sch.tn_q rfl rfl rfl (fun K hK => ?_); go_big_quiet_op; (first | refine hK _ ?_ | refine ⟨_, fun _ _ => rfl, hK _ ?_⟩); clear hK K)
                | (refine Sch.tn_chk _ _ _ rfl rfl rfl rfl rfl ?_; simp only [Act.put, List.setIfInBounds_toArray, List.set_cons_zero, List.set_cons_succ])
                | (refine Sch.tn_load _ _ _ _ _ rfl rfl rfl rfl (by first | exact Pn.ldp | exact Pn.ldq) rfl ?_; simp only [Act.put, List.setIfInBounds_toArray, List.set_cons_zero, List.set_cons_succ])
                | (refine Sch.tn_s _ rfl rfl rfl ?_; simp only [Act.put, List.setIfInBounds_toArray, List.set_cons_zero, List.set_cons_succ])
                | (refine Sch.tn_se _ rfl rfl rfl ?_; simp only [Act.put, List.setIfInBounds_toArray, List.set_cons_zero, List.set_cons_succ]))
              refine Sch.tn_n ?_
              have hmO : m ≤ O.length := hm
              have HIn := Lib.hid (insB_at hmO HV.out (.inr ⟨hml, by rw [← HPm.out]; exact hbf⟩))
              have HSt2 : Hid ((l.take (k + 1)).foldl (childF d) [] = O.take m ++ [q] ++ O.drop m) := by show _ = _; rw [HSt.out]; unfold childF; rw [if_pos HPq.out]; exact HIn.out
              obtain ⟨aO2, cO2, he, hrO, hnO, hlc, -⟩ := ON.row HO.out
              cases he
              have HRP := Lib.hid (hrO.take m)
              have HRR := Lib.hid (offN_row hrO cO m hlc hmO)
              have s1 := cut_loN (some (⟨b2, o2, none⟩ : Addr)) O.length cO m (Nat.le_trans hmO hlc)
              have s2 := cut_hiN (some (⟨b2, o2, none⟩ : Addr)) O.length cO m (O.length - m) (by omega) hlc
              have hT : (O.take m).length = m := by rw [List.length_take]; omega
              have hDr : (O.drop m).length = O.length - m := by rw [List.length_drop]
              have HN1 : Hid ((some (⟨b2, o2, none⟩ : Addr)) = none → cO = 0) := fun h => (hnO h).1
              have HN2 : Hid (offN (some (⟨b2, o2, none⟩ : Addr)) cO m = none → cO - m = 0) := fun h => by have := HN1.out (offN_none h); omega
              have HLP : Hid ((O.take m).length + (O.drop m).length ≤ 400000) := by show _ ≤ _; rw [hT, hDr]; have := HOl.out; have := HL.out; omega
              have HNa : Hid (Na wx b (o + k * 6) q) := by
                obtain ⟨b9, o9, he9, hna9⟩ := na_of (HX.out.keep HB.out) k hlt
                cases he9
                rw [← HQ.out] at hna9
                exact hna9
              clear hrO hnO hlc HIn HV HSt HO
              generalize offN (some (⟨b2, o2, none⟩ : Addr)) cO m = ad2 at *
              generalize cO - m = cR at *
              generalize O.take m = P at *
              generalize O.drop m = Rr at *
              obtain rfl := hT
              rw [← hDr] at s2
              clear hDr
              go_wp2_with fail
              have hd := (Below.refl wx.heap.size wx).drew
              replace HNa : Hid (Na wx.drew b (o + k * 6) q) := HNa.out.keep hd
              replace HB := Lib.hid (bel_tr HB.out hd)
              replace HD := Lib.hid (HD.out.keep hd)
              replace HRP := Lib.hid (HRP.out.keep hd)
              replace HRR := Lib.hid (HRR.out.keep hd)
              replace HSz : Hid (B0 ≤ wx.drew.heap.size) := Nat.le_trans HSz.out hd.size
              clear hd
              refine Sch.wp_region_tn (fun w => Na w b (o + k * 6) q) (.val 0 (.val 1 (.val 2 (.val 4 (.val 5 (.val 6 (.val 7 (.val 10 (.val 11 (.val 12 (.two 3 (.one 8 (.one 9 (.one 13 (.val 14 .done)))) 8 (.one 3 (.one 9 (.one 13 (.val 14 .done))))))))))))))) (by kernel_rfl) (by kernel_rfl) HNa.out ?_
              repeat (first
                | (refine Sch.tn_q rfl rfl rfl (fun K hK => ?_); go_big_quiet_op; (first | refine hK _ ?_ | refine ⟨_, fun _ _ => rfl, hK _ ?_⟩); clear hK K)
                | (refine Sch.tn_chk _ _ _ rfl rfl rfl rfl rfl ?_; simp only [Act.put, List.setIfInBounds_toArray, List.set_cons_zero, List.set_cons_succ])
                | (refine Sch.tn_load _ _ _ _ _ rfl rfl rfl rfl (by first | exact (fun w h => Na.load h)) rfl ?_; simp only [Act.put, List.setIfInBounds_toArray, List.set_cons_zero, List.set_cons_succ]))
              generalize wx.drew = W2 at *
              have HZ := Lib.hid (Below.refl W2.heap.size W2)
              refine Sch.tn_two ?_ ?_
              · skip
                refine Sch.tn_e rfl rfl (fun K hK => ?_)
                refine wp_appN _ _ _ rfl Try.underlying22 infoN (.slice none 0 0) [] rfl (ON.nil _ W2.heap.size _) _ P cO _ rfl rfl HRP.out HN1.out (by have := HLP.out; simp; omega) (Nat.le_refl _) ?_
                intro v1 w3 ho hg _
                have HO3 : Hid (ON w3 W2.heap.size EN v1 P) := ho
                replace HZ := Lib.hid (HZ.out.grown hg (Nat.le_refl _) (fun k hk => by cases hk))
                clear ho hg
                refine hK _ _ (HNa.out.keep HZ.out) ?_
                clear hK K
                simp only [Act.put, List.setIfInBounds_toArray, List.set_cons_zero, List.set_cons_succ]
                refine Sch.tn_e rfl rfl (fun K hK => ?_)
                go_wp2_with fail
                have hb4 := bel_box w3 (.cells (nc q) 37)
                have HO4 := Lib.hid (HO3.out.below hb4)
                replace HZ := Lib.hid (HZ.out.trans (hb4.mono HZ.out.size))
                have HL4 : Hid (RowN (w3.alloc (.cells (nc q) 37)) (some ⟨w3.heap.size, 0, none⟩) [q]) := RowN.lit w3 [q] _ _ _ rfl
                clear hb4 HO3
                refine hK _ _ (HNa.out.keep HZ.out) ?_
                clear hK K
                generalize (w3.alloc (.cells (nc q) 37)) = w4 at *
                refine Sch.tn_e rfl rfl (fun K hK => ?_)
                refine wp_appN _ _ _ rfl Try.underlying22 infoN v1 P rfl HO4.out (some ⟨w3.heap.size, 0, none⟩) [q] 1 1 rfl rfl HL4.out (fun h => by cases h) (by have := HLP.out; simp; omega) HZ.out.size ?_
                intro v2 w5 ho hg _
                replace HZ := Lib.hid (HZ.out.grown hg HZ.out.size (fun k hk => (HO4.out.lt k hk).1))
                have HO5 := Lib.hid ho
                clear ho hg HO4 HL4
                refine hK _ _ (HNa.out.keep HZ.out) ?_
                clear hK K
                simp only [Act.put, List.setIfInBounds_toArray, List.set_cons_zero, List.set_cons_succ]
                refine Sch.tn_e rfl rfl (fun K hK => ?_)
                refine wp_appN _ _ _ rfl Try.underlying22 infoN v2 (P ++ [q]) rfl HO5.out ad2 Rr cR _ rfl rfl (HRR.out.keep HZ.out) HN2.out (by have := HLP.out; simp; omega) HZ.out.size ?_
                intro v3 w6 ho hg _
                replace HZ := Lib.hid (HZ.out.grown hg HZ.out.size (fun k hk => (HO5.out.lt k hk).1))
                have HO6 : Hid (ON w6 B0 EN v3 ((l.take (k + 1)).foldl (childF d) [])) := by rw [HSt2.out]; exact ho.mono fun x hx => Nat.le_trans HSz.out (ho.lt x hx).1
                clear ho hg HO5
                refine hK _ _ (HNa.out.keep HZ.out) ?_
                clear hK K
                simp only [Act.put, List.setIfInBounds_toArray, List.set_cons_zero, List.set_cons_succ]
                repeat (first
                  | (refine Sch.tn_q rfl rfl rfl (fun K hK => ?_); go_big_quiet_op; (first | refine hK _ ?_ | refine ⟨_, fun _ _ => rfl, hK _ ?_⟩); clear hK K)
                  | (refine Sch.tn_chk _ _ _ rfl rfl rfl rfl rfl ?_; simp only [Act.put, List.setIfInBounds_toArray, List.set_cons_zero, List.set_cons_succ])
                  | (refine Sch.tn_load _ _ _ _ _ rfl rfl rfl rfl (by first | exact (fun w h => Na.load h)) rfl ?_; simp only [Act.put, List.setIfInBounds_toArray, List.set_cons_zero, List.set_cons_succ]))
                refine Sch.tn_n ?_
                have HB6 := Lib.hid (bel_tr HB.out HZ.out)
                have HD6 := Lib.hid (HD.out.keep HZ.out)
                have HS6 : Hid (B0 ≤ w6.heap.size) := Nat.le_trans HSz.out HZ.out.size
                go_wp2_with fail
                go_roundw
                case rel => exact ⟨k + 1, by omega, by go_num, HS6, HB6, HD6, HO6⟩
                case measure => simp [intOf]; omega
              · skip
                refine Sch.tn_e rfl rfl (fun K hK => ?_)
                go_wp2_with fail
                have hb3 := bel_box W2 (.cells (nc q) 37)
                have HL3 : Hid (RowN (W2.alloc (.cells (nc q) 37)) (some ⟨W2.heap.size, 0, none⟩) [q]) := RowN.lit W2 [q] _ _ _ rfl
                replace HZ := Lib.hid hb3
                have HRP3 := Lib.hid (HRP.out.keep hb3)
                clear hb3
                refine hK _ _ (HNa.out.keep HZ.out) ?_
                clear hK K
                generalize (W2.alloc (.cells (nc q) 37)) = w3 at *
                refine Sch.tn_e rfl rfl (fun K hK => ?_)
                refine wp_appN _ _ _ rfl Try.underlying22 infoN (.slice none 0 0) [] rfl (ON.nil _ W2.heap.size _) _ P cO _ rfl rfl HRP3.out HN1.out (by have := HLP.out; simp; omega) HZ.out.size ?_
                intro v1 w4 ho hg _
                have HO4 : Hid (ON w4 W2.heap.size EN v1 P) := ho
                have hb4 : Below w3.heap.size w3 w4 := (Below.refl _ _).grown hg (Nat.le_refl _) (fun k hk => by cases hk)
                replace HZ := Lib.hid (HZ.out.trans (hb4.mono HZ.out.size))
                have HL4 := Lib.hid (HL3.out.keep hb4)
                clear ho hg hb4 HL3 HRP3
                refine hK _ _ (HNa.out.keep HZ.out) ?_
                clear hK K
                simp only [Act.put, List.setIfInBounds_toArray, List.set_cons_zero, List.set_cons_succ]
                refine Sch.tn_e rfl rfl (fun K hK => ?_)
                refine wp_appN _ _ _ rfl Try.underlying22 infoN v1 P rfl HO4.out (some ⟨W2.heap.size, 0, none⟩) [q] 1 1 rfl rfl HL4.out (fun h => by cases h) (by have := HLP.out; simp; omega) HZ.out.size ?_
                intro v2 w5 ho hg _
                replace HZ := Lib.hid (HZ.out.grown hg HZ.out.size (fun k hk => (HO4.out.lt k hk).1))
                have HO5 := Lib.hid ho
                clear ho hg HO4 HL4
                refine hK _ _ (HNa.out.keep HZ.out) ?_
                clear hK K
                simp only [Act.put, List.setIfInBounds_toArray, List.set_cons_zero, List.set_cons_succ]
                refine Sch.tn_e rfl rfl (fun K hK => ?_)
                refine wp_appN _ _ _ rfl Try.underlying22 infoN v2 (P ++ [q]) rfl HO5.out ad2 Rr cR _ rfl rfl (HRR.out.keep HZ.out) HN2.out (by have := HLP.out; simp; omega) HZ.out.size ?_
                intro v3 w6 ho hg _
                replace HZ := Lib.hid (HZ.out.grown hg HZ.out.size (fun k hk => (HO5.out.lt k hk).1))
                have HO6 : Hid (ON w6 B0 EN v3 ((l.take (k + 1)).foldl (childF d) [])) := by rw [HSt2.out]; exact ho.mono fun x hx => Nat.le_trans HSz.out (ho.lt x hx).1
                clear ho hg HO5
                refine hK _ _ (HNa.out.keep HZ.out) ?_
                clear hK K
                simp only [Act.put, List.setIfInBounds_toArray, List.set_cons_zero, List.set_cons_succ]
                repeat (first
                  | (refine Sch.tn_q rfl rfl rfl (fun K hK => ?_); go_big_quiet_op; (first | refine hK _ ?_ | refine ⟨_, fun _ _ => rfl, hK _ ?_⟩); clear hK K)
                  | (refine Sch.tn_chk _ _ _ rfl rfl rfl rfl rfl ?_; simp only [Act.put, List.setIfInBounds_toArray, List.set_cons_zero, List.set_cons_succ])
                  | (refine Sch.tn_load _ _ _ _ _ rfl rfl rfl rfl (by first | exact (fun w h => Na.load h)) rfl ?_; simp only [Act.put, List.setIfInBounds_toArray, List.set_cons_zero, List.set_cons_succ]))
                refine Sch.tn_n ?_
                have HB6 := Lib.hid (bel_tr HB.out HZ.out)
                have HD6 := Lib.hid (HD.out.keep HZ.out)
                have HS6 : Hid (B0 ≤ w6.heap.size) := Nat.le_trans HSz.out HZ.out.size
                go_wp2_with fail
                go_roundw
                case rel => exact ⟨k + 1, by omega, by go_num, HS6, HB6, HD6, HO6⟩
                case measure => simp [intOf]; omega
            · have HV2 := Lib.hid (HVn.out hbf)
              repeat (first
                | (refine Sch.tn_q rfl rfl rfl (fun K hK => ?_); go_big_quiet_op; (first | refine hK _ ?_ | refine ⟨_, fun _ _ => rfl, hK _ ?_⟩); clear hK K)
                | (refine Sch.tn_chk _ _ _ rfl rfl rfl rfl rfl ?_; simp only [Act.put, List.setIfInBounds_toArray, List.set_cons_zero, List.set_cons_succ])
                | (refine Sch.tn_load _ _ _ _ _ rfl rfl rfl rfl (by first | exact Pn.ldp | exact Pn.ldq) rfl ?_; simp only [Act.put, List.setIfInBounds_toArray, List.set_cons_zero, List.set_cons_succ])
                | (refine Sch.tn_s _ rfl rfl rfl ?_; simp only [Act.put, List.setIfInBounds_toArray, List.set_cons_zero, List.set_cons_succ])
                | (refine Sch.tn_se _ rfl rfl rfl ?_; simp only [Act.put, List.setIfInBounds_toArray, List.set_cons_zero, List.set_cons_succ]))
              refine Sch.tn_n ?_
              clear hbf
              go_wp2_with fail
              go_roundw
              case rel => exact ⟨m + 1, by omega, by go_num, HV2, HSz, HB, HD, HO⟩
              case measure => simp [intOf]; omega
          · have hme : m = O.length := by omega
            have hmi : ¬ (m : Int) < (O.length : Int) := by omega
            have HME := Lib.hid hme
            clear hme
            have hd := (Below.refl wr.heap.size wr).drew
            replace HSz : Hid (B0 ≤ wr.drew.heap.size) := Nat.le_trans HSz.out hd.size
            replace HB := Lib.hid (bel_tr HB.out hd)
            replace HD := Lib.hid (HD.out.keep hd)
            replace HO := Lib.hid (HO.out.below hd)
            clear hd
            go_wp2_with fail
            refine Sch.wp_region_tn (fun _ => True) (.val 0 (.val 1 (.val 2 (.val 3 (.val 4 (.val 5 (.val 6 (.val 7 (.val 8 (.val 9 (.val 10 (.val 11 (.val 12 (.one 13 (.val 14 .done))))))))))))))) (by kernel_rfl) (by kernel_rfl) trivial ?_
            repeat (first
              | (refine Sch.tn_q rfl rfl rfl (fun K hK => ?_); go_big_quiet_op; (first | refine hK _ ?_ | refine ⟨_, fun _ _ => rfl, hK _ ?_⟩); clear hK K)
              | (refine Sch.tn_chk _ _ _ rfl rfl rfl rfl rfl ?_; simp only [Act.put, List.setIfInBounds_toArray, List.set_cons_zero, List.set_cons_succ]))
            repeat (first
              | (refine Sch.tn_q rfl rfl rfl (fun K hK => ?_); go_big_quiet_op; (first | refine hK _ ?_ | refine ⟨_, fun _ _ => rfl, hK _ ?_⟩); clear hK K)
              | (refine Sch.tn_chk _ _ _ rfl rfl rfl rfl rfl ?_; simp only [Act.put, List.setIfInBounds_toArray, List.set_cons_zero, List.set_cons_succ])
              | (refine Sch.tn_s _ rfl rfl rfl ?_; simp only [Act.put, List.setIfInBounds_toArray, List.set_cons_zero, List.set_cons_succ])
              | (refine Sch.tn_se _ rfl rfl rfl ?_; simp only [Act.put, List.setIfInBounds_toArray, List.set_cons_zero, List.set_cons_succ]))
            refine Sch.tn_n ?_
            generalize wr.drew = wx at *
            have hmO : m ≤ O.length := hm
            have HIn := Lib.hid (insB_at hmO HV.out (.inl HME.out))
            have HSt2 : Hid ((l.take (k + 1)).foldl (childF d) [] = O.take m ++ [q] ++ O.drop m) := by show _ = _; rw [HSt.out]; unfold childF; rw [if_pos HPq.out]; exact HIn.out
            obtain ⟨aO2, cO2, he, hrO, hnO, hlc, -⟩ := ON.row HO.out
            cases he
            have HRP := Lib.hid (hrO.take m)
            have HRR := Lib.hid (offN_row hrO cO m hlc hmO)
            have s1 := cut_loN aO O.length cO m (Nat.le_trans hmO hlc)
            have s2 := cut_hiN aO O.length cO m (O.length - m) (by omega) hlc
            have hT : (O.take m).length = m := by rw [List.length_take]; omega
            have hDr : (O.drop m).length = O.length - m := by rw [List.length_drop]
            have HN1 : Hid (aO = none → cO = 0) := fun h => (hnO h).1
            have HN2 : Hid (offN aO cO m = none → cO - m = 0) := fun h => by have := HN1.out (offN_none h); omega
            have HLP : Hid ((O.take m).length + (O.drop m).length ≤ 400000) := by show _ ≤ _; rw [hT, hDr]; have := HOl.out; have := HL.out; omega
            have HNa : Hid (Na wx b (o + k * 6) q) := by
              obtain ⟨b9, o9, he9, hna9⟩ := na_of (HX.out.keep HB.out) k hlt
              cases he9
              rw [← HQ.out] at hna9
              exact hna9
            clear hrO hnO hlc HIn HV HSt HO
            generalize offN aO cO m = ad2 at *
            generalize cO - m = cR at *
            generalize O.take m = P at *
            generalize O.drop m = Rr at *
            obtain rfl := hT
            rw [← hDr] at s2
            clear hDr
            go_wp2_with fail
            have hd := (Below.refl wx.heap.size wx).drew
            replace HNa : Hid (Na wx.drew b (o + k * 6) q) := HNa.out.keep hd
            replace HB := Lib.hid (bel_tr HB.out hd)
            replace HD := Lib.hid (HD.out.keep hd)
            replace HRP := Lib.hid (HRP.out.keep hd)
            replace HRR := Lib.hid (HRR.out.keep hd)
            replace HSz : Hid (B0 ≤ wx.drew.heap.size) := Nat.le_trans HSz.out hd.size
            clear hd
            refine Sch.wp_region_tn (fun w => Na w b (o + k * 6) q) (.val 0 (.val 1 (.val 2 (.val 4 (.val 5 (.val 6 (.val 7 (.val 10 (.val 11 (.val 12 (.two 3 (.one 8 (.one 9 (.one 13 (.val 14 .done)))) 8 (.one 3 (.one 9 (.one 13 (.val 14 .done))))))))))))))) (by kernel_rfl) (by kernel_rfl) HNa.out ?_
            repeat (first
              | (refine Sch.tn_q rfl rfl rfl (fun K hK => ?_); go_big_quiet_op; (first | refine hK _ ?_ | refine ⟨_, fun _ _ => rfl, hK _ ?_⟩); clear hK K)
              | (refine Sch.tn_chk _ _ _ rfl rfl rfl rfl rfl ?_; simp only [Act.put, List.setIfInBounds_toArray, List.set_cons_zero, List.set_cons_succ])
              | (refine Sch.tn_load _ _ _ _ _ rfl rfl rfl rfl (by first | exact (fun w h => Na.load h)) rfl ?_; simp only [Act.put, List.setIfInBounds_toArray, List.set_cons_zero, List.set_cons_succ]))
            generalize wx.drew = W2 at *
            have HZ := Lib.hid (Below.refl W2.heap.size W2)
            refine Sch.tn_two ?_ ?_
            · skip
              refine Sch.tn_e rfl rfl (fun K hK => ?_)
              refine wp_appN _ _ _ rfl Try.underlying22 infoN (.slice none 0 0) [] rfl (ON.nil _ W2.heap.size _) _ P cO _ rfl rfl HRP.out HN1.out (by have := HLP.out; simp; omega) (Nat.le_refl _) ?_
              intro v1 w3 ho hg _
              have HO3 : Hid (ON w3 W2.heap.size EN v1 P) := ho
              replace HZ := Lib.hid (HZ.out.grown hg (Nat.le_refl _) (fun k hk => by cases hk))
              clear ho hg
              refine hK _ _ (HNa.out.keep HZ.out) ?_
              clear hK K
              simp only [Act.put, List.setIfInBounds_toArray, List.set_cons_zero, List.set_cons_succ]
              refine Sch.tn_e rfl rfl (fun K hK => ?_)
              go_wp2_with fail
              have hb4 := bel_box w3 (.cells (nc q) 37)
              have HO4 := Lib.hid (HO3.out.below hb4)
              replace HZ := Lib.hid (HZ.out.trans (hb4.mono HZ.out.size))
              have HL4 : Hid (RowN (w3.alloc (.cells (nc q) 37)) (some ⟨w3.heap.size, 0, none⟩) [q]) := RowN.lit w3 [q] _ _ _ rfl
              clear hb4 HO3
              refine hK _ _ (HNa.out.keep HZ.out) ?_
              clear hK K
              generalize (w3.alloc (.cells (nc q) 37)) = w4 at *
              refine Sch.tn_e rfl rfl (fun K hK => ?_)
              refine wp_appN _ _ _ rfl Try.underlying22 infoN v1 P rfl HO4.out (some ⟨w3.heap.size, 0, none⟩) [q] 1 1 rfl rfl HL4.out (fun h => by cases h) (by have := HLP.out; simp; omega) HZ.out.size ?_
              intro v2 w5 ho hg _
              replace HZ := Lib.hid (HZ.out.grown hg HZ.out.size (fun k hk => (HO4.out.lt k hk).1))
              have HO5 := Lib.hid ho
              clear ho hg HO4 HL4
              refine hK _ _ (HNa.out.keep HZ.out) ?_
              clear hK K
              simp only [Act.put, List.setIfInBounds_toArray, List.set_cons_zero, List.set_cons_succ]
              refine Sch.tn_e rfl rfl (fun K hK => ?_)
              refine wp_appN _ _ _ rfl Try.underlying22 infoN v2 (P ++ [q]) rfl HO5.out ad2 Rr cR _ rfl rfl (HRR.out.keep HZ.out) HN2.out (by have := HLP.out; simp; omega) HZ.out.size ?_
              intro v3 w6 ho hg _
              replace HZ := Lib.hid (HZ.out.grown hg HZ.out.size (fun k hk => (HO5.out.lt k hk).1))
              have HO6 : Hid (ON w6 B0 EN v3 ((l.take (k + 1)).foldl (childF d) [])) := by rw [HSt2.out]; exact ho.mono fun x hx => Nat.le_trans HSz.out (ho.lt x hx).1
              clear ho hg HO5
              refine hK _ _ (HNa.out.keep HZ.out) ?_
              clear hK K
              simp only [Act.put, List.setIfInBounds_toArray, List.set_cons_zero, List.set_cons_succ]
              repeat (first
                | (refine Sch.tn_q rfl rfl rfl (fun K hK => ?_); go_big_quiet_op; (first | refine hK _ ?_ | refine ⟨_, fun _ _ => rfl, hK _ ?_⟩); clear hK K)
                | (refine Sch.tn_chk _ _ _ rfl rfl rfl rfl rfl ?_; simp only [Act.put, List.setIfInBounds_toArray, List.set_cons_zero, List.set_cons_succ])
                | (refine Sch.tn_load _ _ _ _ _ rfl rfl rfl rfl (by first | exact (fun w h => Na.load h)) rfl ?_; simp only [Act.put, List.setIfInBounds_toArray, List.set_cons_zero, List.set_cons_succ]))
              refine Sch.tn_n ?_
              have HB6 := Lib.hid (bel_tr HB.out HZ.out)
              have HD6 := Lib.hid (HD.out.keep HZ.out)
              have HS6 : Hid (B0 ≤ w6.heap.size) := Nat.le_trans HSz.out HZ.out.size
              go_wp2_with fail
              go_roundw
              case rel => exact ⟨k + 1, by omega, by go_num, HS6, HB6, HD6, HO6⟩
              case measure => simp [intOf]; omega
            · skip
              refine Sch.tn_e rfl rfl (fun K hK => ?_)
              go_wp2_with fail
              have hb3 := bel_box W2 (.cells (nc q) 37)
              have HL3 : Hid (RowN (W2.alloc (.cells (nc q) 37)) (some ⟨W2.heap.size, 0, none⟩) [q]) := RowN.lit W2 [q] _ _ _ rfl
              replace HZ := Lib.hid hb3
              have HRP3 := Lib.hid (HRP.out.keep hb3)
              clear hb3
              refine hK _ _ (HNa.out.keep HZ.out) ?_
              clear hK K
              generalize (W2.alloc (.cells (nc q) 37)) = w3 at *
              refine Sch.tn_e rfl rfl (fun K hK => ?_)
              refine wp_appN _ _ _ rfl Try.underlying22 infoN (.slice none 0 0) [] rfl (ON.nil _ W2.heap.size _) _ P cO _ rfl rfl HRP3.out HN1.out (by have := HLP.out; simp; omega) HZ.out.size ?_
              intro v1 w4 ho hg _
              have HO4 : Hid (ON w4 W2.heap.size EN v1 P) := ho
              have hb4 : Below w3.heap.size w3 w4 := (Below.refl _ _).grown hg (Nat.le_refl _) (fun k hk => by cases hk)
              replace HZ := Lib.hid (HZ.out.trans (hb4.mono HZ.out.size))
              have HL4 := Lib.hid (HL3.out.keep hb4)
              clear ho hg hb4 HL3 HRP3
              refine hK _ _ (HNa.out.keep HZ.out) ?_
              clear hK K
              simp only [Act.put, List.setIfInBounds_toArray, List.set_cons_zero, List.set_cons_succ]
              refine Sch.tn_e rfl rfl (fun K hK => ?_)
              refine wp_appN _ _ _ rfl Try.underlying22 infoN v1 P rfl HO4.out (some ⟨W2.heap.size, 0, none⟩) [q] 1 1 rfl rfl HL4.out (fun h => by cases h) (by have := HLP.out; simp; omega) HZ.out.size ?_
              intro v2 w5 ho hg _
              replace HZ := Lib.hid (HZ.out.grown hg HZ.out.size (fun k hk => (HO4.out.lt k hk).1))
              have HO5 := Lib.hid ho
              clear ho hg HO4 HL4
              refine hK _ _ (HNa.out.keep HZ.out) ?_
              clear hK K
              simp only [Act.put, List.setIfInBounds_toArray, List.set_cons_zero, List.set_cons_succ]
              refine Sch.tn_e rfl rfl (fun K hK => ?_)
              refine wp_appN _ _ _ rfl Try.underlying22 infoN v2 (P ++ [q]) rfl HO5.out ad2 Rr cR _ rfl rfl (HRR.out.keep HZ.out) HN2.out (by have := HLP.out; simp; omega) HZ.out.size ?_
              intro v3 w6 ho hg _
              replace HZ := Lib.hid (HZ.out.grown hg HZ.out.size (fun k hk => (HO5.out.lt k hk).1))
              have HO6 : Hid (ON w6 B0 EN v3 ((l.take (k + 1)).foldl (childF d) [])) := by rw [HSt2.out]; exact ho.mono fun x hx => Nat.le_trans HSz.out (ho.lt x hx).1
              clear ho hg HO5
              refine hK _ _ (HNa.out.keep HZ.out) ?_
              clear hK K
              simp only [Act.put, List.setIfInBounds_toArray, List.set_cons_zero, List.set_cons_succ]
              repeat (first
                | (refine Sch.tn_q rfl rfl rfl (fun K hK => ?_); go_big_quiet_op; (first | refine hK _ ?_ | refine ⟨_, fun _ _ => rfl, hK _ ?_⟩); clear hK K)
                | (refine Sch.tn_chk _ _ _ rfl rfl rfl rfl rfl ?_; simp only [Act.put, List.setIfInBounds_toArray, List.set_cons_zero, List.set_cons_succ])
                | (refine Sch.tn_load _ _ _ _ _ rfl rfl rfl rfl (by first | exact (fun w h => Na.load h)) rfl ?_; simp only [Act.put, List.setIfInBounds_toArray, List.set_cons_zero, List.set_cons_succ]))
              refine Sch.tn_n ?_
              have HB6 := Lib.hid (bel_tr HB.out HZ.out)
              have HD6 := Lib.hid (HD.out.keep HZ.out)
              have HS6 : Hid (B0 ≤ w6.heap.size) := Nat.le_trans HSz.out HZ.out.size
              go_wp2_with fail
              go_roundw
              case rel => exact ⟨k + 1, by omega, by go_num, HS6, HB6, HD6, HO6⟩
              case measure => simp [intOf]; omega
      · have hnq := neq_yes hp
        have HSt2 : Hid ((l.take (k + 1)).foldl (childF d) [] = O) := by show _ = _; rw [HSt.out]; unfold childF; rw [if_neg hp]
        go_wp2_with fail
        refine Sch.wp_region_tn (Pc w.heap.size b (o + k * 6) d q) (.val 0 (.val 1 (.val 2 (.val 3 (.val 4 (.val 5 (.val 6 .done))))))) (by kernel_rfl) (by kernel_rfl) HP.out ?_
        repeat (first
          | (refine Sch.tn_q rfl rfl rfl (fun K hK => ?_); go_big_quiet_op; (first | refine hK _ ?_ | refine ⟨_, fun _ _ => rfl, hK _ ?_⟩); clear hK K)
          | (refine Sch.tn_chk _ _ _ rfl rfl rfl rfl rfl ?_; simp only [Act.put, List.setIfInBounds_toArray, List.set_cons_zero, List.set_cons_succ])
          | (refine Sch.tn_load _ _ _ _ _ rfl rfl rfl rfl (by first | exact Pc.ldp | exact Pc.ldd) rfl ?_; simp only [Act.put, List.setIfInBounds_toArray, List.set_cons_zero, List.set_cons_succ]))
        refine Sch.tn_n ?_
        generalize wr.drew = w2 at *
        go_wp2_with fail
        go_roundw
        case rel => exact ⟨k + 1, by omega, by go_num, HSd, HBd, HP.out.2, by rw [HSt2.out]; exact HOd.out⟩
        case measure => simp [intOf]; omega
    · obtain rfl : k = l.length := by omega
      have hend : ¬ (l.length : Int) < (l.length : Int) := by omega
      rw [← HR0.out] at HO
      go_wp2_with fail
      go_ret
      exact ⟨_, rfl, HO.out.mono fun x hx => Nat.le_trans (Nat.le_of_lt HS.out) (HO.out.lt x hx).1, HB.out⟩
end Go.Proofs.Yteojbekkbgcmnab.Un
end

/-
  The reference's Below.
-/
section
namespace Go.Proofs.Yteojbekkbgcmnab.Un
set_option linter.unusedVariables false
open Go.RowKit V Go.Shelf D Nd Qs Wk
attribute [local irreducible] Sch.heldN Sch.stepV Sch.stepE

theorem flat_take {C : List Nt} {k : Nat} (f : Nt → List Nt) (h : k < C.length) : (C.take (k + 1)).flatMap f = (C.take k).flatMap f ++ f C[k] := by
  rw [List.take_succ_eq_append_getElem h, List.flatMap_append]
  simp
theorem flat_len (C : List Nt) (f : Nt → List Nt) (k : Nat) : ((C.take k).flatMap f).length ≤ (C.flatMap f).length := by
  have h := congrArg (fun x => (x.flatMap f).length) (List.take_append_drop k C)
  simp only [List.flatMap_append, List.length_append] at h
  omega
set_option maxRecDepth 100000 in
set_option maxHeartbeats 8000000 in
theorem below_ref (l : List Nt) (hv : validS l = true) (hlx : l.length ≤ 300000) : ∀ (n : Nat) (d : Dt) (p : List Dt), Pt l d p → l.length + 1 ≤ n + p.length → ∀ (a : Option Addr) (c : Nat) (w : World), RowN w a l →
    Calls Try.prog 67 #[.slice a l.length c, dv d] w fun e w' => ∃ v, e = .returned v ∧ ON w' w.heap.size EN v (Bw l d) ∧ Below w.heap.size w w' := by
  intro n
  induction n with
  | zero =>
    intro d p hp hn a c w hx
    have := pt_len hp
    omega
  | succ n ih =>
    intro d p hp hn a c w hx
    have HIH : Hid (∀ x ∈ childS l d, ∀ w, RowN w a l → Calls Try.prog 67 #[.slice a l.length c, dv x.1] w fun e w' => ∃ v, e = .returned v ∧ ON w' w.heap.size EN v (Bw l x.1) ∧ Below w.heap.size w w') := fun x hxm w h => ih x.1 (p ++ [x.1]) (child_path hv hp hxm) (by rw [List.length_append]; simp; omega) a c w h
    have HLn : Hid (∀ x ∈ childS l d, (Bw l x.1).length ≤ l.length) := fun x hxm => bw_len hv (child_path hv hp hxm)
    have HR : Hid (Bw l d = (childS l d).flatMap fun x => x :: Bw l x.1) := bw_eq hv hp
    have HTl : Hid (((childS l d).flatMap fun x => x :: Bw l x.1).length ≤ l.length) := by show _ ≤ _; rw [← bw_eq hv hp]; exact bw_len hv hp
    clear ih
    have HC := Lib.hid (fun w h => child_ref l d a c w h (by omega))
    have HCl : Hid ((childS l d).length ≤ 400000) := by
      have h := fold_len d l l.length (Nat.le_refl _)
      rw [List.take_length] at h
      show _ ≤ _
      have h2 : (childS l d).length ≤ l.length := h
      omega
    have HB := Lib.hid (bel_box w (.cells #[.int .i64 d.1, .int .i64 d.2] 34))
    have HX := Lib.hid hx
    have HD := Lib.hid (bd_new w d)
    have HL := Lib.hid hlx
    clear hx hp hn hv
    generalize Bw l d = R at *
    generalize hCC : childS l d = C at *
    clear hCC
    go_enter Try.func67, Try.ntmps67
    have c0 := HD.out.c0
    have c1 := HD.out.c1
    go_wp2_with fail
    generalize w.alloc (.cells #[.int .i64 d.1, .int .i64 d.2] 34) = w1 at *
    refine (HC.out _ (HX.out.keep HB.out)).mono ?_
    rintro e w2 ⟨v, rfl, ho, hb⟩
    obtain ⟨aC, cC, rfl, hrC, -, -, hlt2⟩ := ON.row ho
    replace HB := Lib.hid (bel_tr HB.out hb)
    obtain ⟨B0, hB0⟩ : ∃ B0, B0 = w2.heap.size := ⟨_, rfl⟩
    have HBw : Hid (w.heap.size ≤ B0) := by show _ ≤ _; rw [hB0]; exact HB.out.size
    have HBc : Hid (∀ b o, aC = some ⟨b, o, none⟩ → b < B0) := fun b o e => by rw [hB0]; exact (hlt2 _ e).2.2.2
    have HB0 := Lib.hid hB0
    have HRC := Lib.hid hrC
    have hCi : (C.length : Int) ≤ 400000 := by have := HCl.out; omega
    clear ho hb hrC hlt2 hB0 HC HD c0 c1
    go_wp2_with fail
    go_loopw [5, 7] (fun v i wr => ∃ k : Nat, k ≤ C.length ∧ i = .int .i64 (k : Int) ∧ Hid (B0 ≤ wr.heap.size) ∧ Hid (Below w.heap.size w wr) ∧ Hid (RowN wr aC C) ∧ Hid (ON wr B0 EN v ((C.take k).flatMap fun x => x :: Bw l x.1))) (fun _ i _ => C.length - (intOf i).toNat)
    case atStart => exact ⟨0, Nat.zero_le _, rfl, by show B0 ≤ _; rw [HB0.out]; exact Nat.le_refl _, HB, HRC, ON.nil _ _ _⟩
    case round =>
      obtain ⟨k, hk, rfl, HSz, HB, HRC, HO⟩ := hrel
      by_cases hlt : k < C.length
      · have hi0 : (k : Int) < (C.length : Int) := by omega
        obtain ⟨b, o, rfl, hna⟩ := na_of HRC.out k hlt
        have HSt := Lib.hid (flat_take (fun x => x :: Bw l x.1) hlt)
        have HPl : Hid (((C.take k).flatMap fun x => x :: Bw l x.1).length ≤ 300000) := by
          show _ ≤ _
          have h1 := flat_len C (fun x => x :: Bw l x.1) k
          have h2 := HTl.out
          have h3 := HL.out
          omega
        have HI := Lib.hid (HIH.out C[k] (List.getElem_mem hlt))
        have HBl := Lib.hid (HLn.out C[k] (List.getElem_mem hlt))
        obtain ⟨q, hq⟩ : ∃ q, q = C[k] := ⟨_, rfl⟩
        rw [← hq] at hna HSt HI HBl
        have HQ := Lib.hid hq
        clear hq
        generalize (C.take k).flatMap (fun x => x :: Bw l x.1) = P at *
        have hx0 := ixN b o C.length cC k (k : Int) rfl hlt
        have hd := (Below.refl wr.heap.size wr).drew
        have HNa : Hid (Na wr.drew b (o + k * 6) q) := hna.keep hd
        replace HB := Lib.hid (bel_tr HB.out hd)
        replace HRC := Lib.hid (HRC.out.keep hd)
        replace HO := Lib.hid (HO.out.below hd)
        replace HSz : Hid (B0 ≤ wr.drew.heap.size) := Nat.le_trans HSz.out hd.size
        clear hd hna
        go_wp2_with fail
        refine Sch.wp_region_tn (fun w => Na w b (o + k * 6) q) (.val 0 (.val 1 (.val 2 (.val 3 (.val 4 (.val 7 (.val 8 (.val 9 (.val 10 (.val 11 (.val 12 (.one 5 (.one 6 (.one 13 (.one 14 (.val 15 .done)))))))))))))))) (by kernel_rfl) (by kernel_rfl) HNa.out ?_
        repeat (first
          | (refine Sch.tn_q rfl rfl rfl (fun K hK => ?_); go_big_quiet_op; (first | refine hK _ ?_ | refine ⟨_, fun _ _ => rfl, hK _ ?_⟩); clear hK K)
          | (refine Sch.tn_chk _ _ _ rfl rfl rfl rfl rfl ?_; simp only [Act.put, List.setIfInBounds_toArray, List.set_cons_zero, List.set_cons_succ])
          | (refine Sch.tn_load _ _ _ _ _ rfl rfl rfl rfl (by first | exact (fun w h => Na.load h) | exact (fun w h => Na.loadD h)) rfl ?_; simp only [Act.put, List.setIfInBounds_toArray, List.set_cons_zero, List.set_cons_succ]))
        generalize wr.drew = w3 at *
        refine Sch.tn_e rfl rfl (fun K hK => ?_)
        go_wp2_with fail
        have hbx := bel_box w3 (.cells (nc q) 37)
        have HLt : Hid (RowN (w3.alloc (.cells (nc q) 37)) (some ⟨w3.heap.size, 0, none⟩) [q]) := RowN.lit w3 [q] _ _ _ rfl
        replace HNa : Hid (Na (w3.alloc (.cells (nc q) 37)) b (o + k * 6) q) := HNa.out.keep hbx
        replace HB := Lib.hid (bel_tr HB.out hbx)
        replace HRC := Lib.hid (HRC.out.keep hbx)
        replace HO := Lib.hid (HO.out.below hbx)
        replace HSz : Hid (B0 ≤ (w3.alloc (.cells (nc q) 37)).heap.size) := Nat.le_trans HSz.out hbx.size
        clear hbx
        refine hK _ _ HNa.out ?_
        clear hK K
        generalize w3.alloc (.cells (nc q) 37) = w4 at *
        generalize w3.heap.size = g3 at *
        refine Sch.tn_e rfl rfl (fun K hK => ?_)
        refine wp_appN _ _ _ rfl Try.underlying22 infoN _ P rfl HO.out (some ⟨g3, 0, none⟩) [q] 1 1 rfl rfl HLt.out (fun h => by cases h) (by have := HPl.out; simp; omega) HSz.out ?_
        intro v5 w5 ho hg _
        have HO5 := Lib.hid ho
        have HB5 := Lib.hid (HB.out.grown hg HB.out.size (fun x hx => Nat.le_trans HBw.out (HO.out.lt x hx).1))
        have HRC5 : Hid (RowN w5 (some ⟨b, o, none⟩) C) := HRC.out.gb hg (fun b' o' e e2 => by have h1 := (HO.out.lt _ e2.symm).1; have h2 := HBc.out b' o' e; omega)
        have HNa5 : Hid (Na w5 b (o + k * 6) q) := by
          obtain ⟨b9, o9, e9, h9⟩ := na_of HRC5.out k hlt
          cases e9
          rw [← HQ.out] at h9
          exact h9
        have HS5 : Hid (B0 ≤ w5.heap.size) := Nat.le_trans HSz.out hg.size
        clear ho hg HLt HO HB HRC HNa HSz
        refine hK _ _ HNa5.out ?_
        clear hK K
        simp only [Act.put, List.setIfInBounds_toArray, List.set_cons_zero, List.set_cons_succ]
        refine Sch.tn_e rfl rfl (fun K hK => ?_)
        go_wp2_with fail
        refine (HI.out _ (HX.out.keep HB5.out)).mono ?_
        rintro e w6 ⟨v6, rfl, ho, hb⟩
        obtain ⟨a6, c6, rfl, hr6, hn6, -, -⟩ := ON.row ho
        have HR6 := Lib.hid hr6
        have HN6 : Hid (a6 = none → c6 = 0) := fun h => (hn6 h).1
        replace HNa5 : Hid (Na w6 b (o + k * 6) q) := HNa5.out.keep hb
        replace HB5 := Lib.hid (bel_tr HB5.out hb)
        replace HRC5 := Lib.hid (HRC5.out.keep hb)
        replace HO5 := Lib.hid (HO5.out.below hb)
        replace HS5 : Hid (B0 ≤ w6.heap.size) := Nat.le_trans HS5.out hb.size
        clear ho hb hr6 hn6
        refine hK _ _ HNa5.out ?_
        clear hK K
        refine Sch.tn_e rfl rfl (fun K hK => ?_)
        refine wp_appN _ _ _ rfl Try.underlying22 infoN _ (P ++ [q]) rfl HO5.out a6 (Bw l q.1) c6 _ rfl rfl HR6.out HN6.out (by have := HPl.out; have := HBl.out; have := HL.out; simp; omega) HS5.out ?_
        intro v7 w7 ho hg _
        have HO7 : Hid (ON w7 B0 EN v7 ((C.take (k + 1)).flatMap fun x => x :: Bw l x.1)) := by
          show ON _ _ _ _ _
          rw [HSt.out, show P ++ q :: Bw l q.1 = P ++ [q] ++ Bw l q.1 by simp]
          exact ho
        have HB7 := Lib.hid (HB5.out.grown hg HB5.out.size (fun x hx => Nat.le_trans HBw.out (HO5.out.lt x hx).1))
        have HRC7 : Hid (RowN w7 (some ⟨b, o, none⟩) C) := HRC5.out.gb hg (fun b' o' e e2 => by have h1 := (HO5.out.lt _ e2.symm).1; have h2 := HBc.out b' o' e; omega)
        have HNa7 : Hid (Na w7 b (o + k * 6) q) := by
          obtain ⟨b9, o9, e9, h9⟩ := na_of HRC7.out k hlt
          cases e9
          rw [← HQ.out] at h9
          exact h9
        have HS7 : Hid (B0 ≤ w7.heap.size) := Nat.le_trans HS5.out hg.size
        clear ho hg HR6
        refine hK _ _ HNa7.out ?_
        clear hK K
        simp only [Act.put, List.setIfInBounds_toArray, List.set_cons_zero, List.set_cons_succ]
        repeat (first
          | (refine Sch.tn_q rfl rfl rfl (fun K hK => ?_); go_big_quiet_op; (first | refine hK _ ?_ | refine ⟨_, fun _ _ => rfl, hK _ ?_⟩); clear hK K)
          | (refine Sch.tn_chk _ _ _ rfl rfl rfl rfl rfl ?_; simp only [Act.put, List.setIfInBounds_toArray, List.set_cons_zero, List.set_cons_succ])
          | (refine Sch.tn_load _ _ _ _ _ rfl rfl rfl rfl (by first | exact (fun w h => Na.load h)) rfl ?_; simp only [Act.put, List.setIfInBounds_toArray, List.set_cons_zero, List.set_cons_succ]))
        refine Sch.tn_n ?_
        go_wp2_with fail
        go_roundw
        case rel => exact ⟨k + 1, by omega, by go_num, HS7, HB7, HRC7, HO7⟩
        case measure => simp [intOf]; omega
      · obtain rfl : k = C.length := by omega
        have hend : ¬ (C.length : Int) < (C.length : Int) := by omega
        rw [List.take_length, ← HR.out] at HO
        go_wp2_with fail
        go_ret
        exact ⟨_, rfl, HO.out.mono fun x hx => Nat.le_trans HBw.out (HO.out.lt x hx).1, HB.out⟩
/-- Order of the reference. -/
theorem order_ref (l : List Nt) (hv : validS l = true) (hlx : l.length ≤ 300000) (a : Option Addr) (c : Nat) (w : World) (hx : RowN w a l) :
    Calls Try.prog 43 #[.slice a l.length c] w fun e w' => ∃ v, e = .returned v ∧ ON w' w.heap.size EN v (orderS l) ∧ Below w.heap.size w w' := by
  have HC := Lib.hid (below_ref l hv hlx (l.length + 1) (0, 0) [] (root_path l) (by simp) a c w hx)
  rw [show Bw l (0, 0) = orderS l from rfl] at HC
  clear hx
  go_enter Try.func43, Try.ntmps43
  go_wp2_with fail
  refine HC.out.mono ?_
  rintro e w2 ⟨v, rfl, ho, hb⟩
  have HO := Lib.hid ho
  have HB := Lib.hid hb
  clear ho hb HC
  go_wp2_with fail
  go_ret
  exact ⟨v, rfl, HO.out, HB.out⟩
end Go.Proofs.Yteojbekkbgcmnab.Un
end
