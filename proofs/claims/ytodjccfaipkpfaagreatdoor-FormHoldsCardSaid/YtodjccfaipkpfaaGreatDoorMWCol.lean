/-
  Ranges that collect: a box with a row of the call's own; the tree's iterators, below and all.
-/
import Derived.Test.YtodjccfaipkpfaaGreatDoorWBel
import Derived.Test.YtodjccfaipkpfaaGreatDoorMDSet
import Derived.Test.YtodjccfaipkpfaaGreatDoorMSchW

section
namespace Go.Proofs.YtodjccfaipkpfaaGreatDoor.Un
set_option linter.unusedVariables false
open Go.RowKit V Go.Shelf D Nd Qs Wk
attribute [local go_sem] Oper.semAt_some

/-- What has been collected so far: all that was is as it was; the box G has a row of the call's own. -/
def Cj (w : World) (base G : Nat) (tS E : TypeId) (size n : Nat) (xs : List Value) (A : World) : Prop := Below w.heap.size w A ∧ ∃ v, Bx A G v tS ∧ A.ownsRow base E size v n xs
theorem Cj.abF {tys : List TypeId} {w : World} {base G B size n : Nat} {tS E : TypeId} {xs : List Value} (hB : w.heap.size ≤ B) (h1 : tS ∉ tys) (h2 : E ∉ tys) : AbF tys B (Cj w base G tS E size n xs) := fun A A' row ha hg hr => by
  obtain ⟨h3, v, h4, h5⟩ := ha
  exact ⟨below_abF hB A A' row h3 hg hr, v, Bx.abF h1 A A' row h4 hg hr, own_abF h2 A A' row h5 hg hr⟩
theorem Qb.keep {w w' : World} {m b1 b2 : Nat} {d : Dt} {l : List Nt} (h : Qb m b1 b2 d l w) (hb : Below w.heap.size w w') : Qb m b1 b2 d l w' := ⟨h.1.keep hb, h.2.1.keep hb, h.2.2.keep hb⟩
theorem Fo.obj {w : World} {m : Nat} {l : List Nt} (h : Fo w m l) : ∃ es c, w.heap[m]? = some (.map es c) := by
  obtain ⟨f, ⟨D, ⟨es, clock, hb, -⟩, -⟩, -⟩ := h
  exact ⟨es, clock, hb⟩
theorem Qb.turn {A A' : World} {m b1 b2 : Nat} {d : Dt} {l : List Nt} {row : Option Nat} (h : Qb m b1 b2 d l A) (hg : A.grownBy A' row) (hr : ∀ r, row = some r → r ≠ b1 ∧ r ≠ b2 ∧ ∃ vs t fr, A.heap[r]? = some (.cells vs t fr) ∧ t ≠ 117 ∧ t ≠ 126) : Qb m b1 b2 d l A' := by
  refine ⟨h.1.turn hg (fun e => ?_) fun r e => ?_, h.2.1.gb hg fun e => (hr b1 e.symm).1 rfl, (hg.block b2 h.2.2.lt fun e => (hr b2 e.symm).2.1 rfl).trans h.2.2⟩
  · obtain ⟨-, -, vs, t, fr, k1, -⟩ := hr m e
    obtain ⟨es, c, k2⟩ := h.1.obj
    rw [k1] at k2
    cases k2
  · obtain ⟨-, -, vs, t, fr, k1, k2, k3⟩ := hr r e
    exact ⟨_, k1, fun vs' t' fr' e2 => by cases e2; exact ⟨k2, k3⟩⟩
theorem Qb.abF {m b1 b2 B : Nat} {d : Dt} {l : List Nt} (hm : m < B) : AbF [EA] B (Qb m b1 b2 d l) := fun A A' row ha hg hr => ⟨Fo.abF hm (by decide) (by decide) A A' row ha.1 hg hr, Bx.abF (by decide) A A' row ha.2.1 hg hr, Bd.abF (by decide) A A' row ha.2.2 hg hr⟩
theorem row_ne {A : World} {base size n b : Nat} {v u : Value} {E t : TypeId} {xs : List Value} (h : A.ownsRow base E size v n xs) (hb : Bx A b u t) (ht : t ≠ E) : some b ≠ v.ownBlock := fun e => by
  rcases h.2 with ⟨rfl, -⟩ | ⟨g, cap, cur, rfl, hbb, hgg, -⟩
  · cases e
  · have e2 : b = g := Option.some.inj e
    subst e2
    unfold Bx at hb
    rw [hgg] at hb
    cases hb
    exact ht rfl
theorem row_below {A A' : World} {base size n : Nat} {v : Value} {E : TypeId} {xs : List Value} (h : A.ownsRow base E size v n xs) (hb : Below A.heap.size A A') : A'.ownsRow base E size v n xs := World.ownsRow.kept h (gb_below hb none) (by rcases v.ownBlock with _ | x <;> simp)
/-- One element more has been laid. -/
theorem Cj.step {ks : List TypeId} {w A A2 : World} {base G C size n n2 : Nat} {tS E : TypeId} {xs xs2 : List Value} {v v2 : Value} {o : Obj} (hw : Below w.heap.size w A) (hwb : w.heap.size ≤ base) (hG : w.heap.size ≤ G) (hb : Bx A G v tS) (ho : A.ownsRow base E size v n xs) (hE : E ∉ ks) (hT : tS ∉ ks) (hne : tS ≠ E)
    (hg : (A.alloc o).grownBy A2 v.ownBlock) (ho2 : A2.ownsRow base E size v2 n2 xs2) :
    Cj w base G tS E size n2 xs2 (A2.setCell ⟨G, 0, none⟩ v2) ∧ Kp ks C A (A2.setCell ⟨G, 0, none⟩ v2) ∧ Bx A2 G v tS := by
  have hba := bel_box A o
  have h1 := hb.keep hba
  have h2 := row_below ho hba
  have hx : Bx A2 G v tS := h1.gb hg (row_ne h2 h1 hne)
  have hs := gb_setCell A2 G 0 v2
  have hn2 := row_ne ho2 hx hne
  refine ⟨⟨?_, v2, hx.set v2, World.ownsRow.kept ho2 hs ?_⟩, ((Kp.bel hba).trans (Kp.own h2 hE hg)).trans (Kp.gb hs hx hT), hx⟩
  · refine bel_low (bel_low (bel_tr hw hba) hg fun x e => Nat.le_trans hwb (World.ownsRow.lt ho x e).1) hs fun x e => ?_
    cases e
    exact hG
  · rcases hv : v2.ownBlock with _ | y
    · exact .inl rfl
    · rw [hv] at hn2; exact .inr fun e => hn2 e.symm
/-- As Cj.step: what the iterator needs stays. -/
theorem Qb.step {A A2 : World} {base G size n : Nat} {tS E : TypeId} {xs : List Value} {v v2 : Value} {o : Obj} {m b1 b2 : Nat} {d : Dt} {l : List Nt} (h : Qb m b1 b2 d l A) (hb : Bx A G v tS) (ho : A.ownsRow base E size v n xs) (hne : tS ≠ E)
    (hS : tS ≠ TT ∧ tS ≠ 33 ∧ tS ≠ 117 ∧ tS ≠ 126) (hE : E ≠ TT ∧ (E ≠ 33 ∨ b2 < base) ∧ E ≠ 117 ∧ E ≠ 126)
    (hg : (A.alloc o).grownBy A2 v.ownBlock) : Qb m b1 b2 d l (A2.setCell ⟨G, 0, none⟩ v2) := by
  have hba := bel_box A o
  have h1 := hb.keep hba
  have h2 := row_below ho hba
  have hx : Bx A2 G v tS := h1.gb hg (row_ne h2 h1 hne)
  have q1 := h.keep hba
  have q2 : Qb m b1 b2 d l A2 := q1.turn hg fun r e => by
    rcases h2.2 with ⟨rfl, -⟩ | ⟨g, cap, cur, rfl, hbb, hgg, -⟩
    · cases e
    · have e2 : g = r := Option.some.inj e
      subst e2
      refine ⟨?_, ?_, _, _, _, hgg, hE.2.2.1, hE.2.2.2⟩
      · rintro rfl
        have := q1.2.1
        unfold Bx at this
        rw [hgg] at this
        cases this
        exact hE.1 rfl
      · rintro rfl
        rcases hE.2.1 with k | k
        · have := q1.2.2
          unfold Bd at this
          rw [hgg] at this
          cases this
          exact k rfl
        · omega
  refine q2.turn (gb_setCell A2 G 0 v2) fun r e => ?_
  cases e
  refine ⟨?_, ?_, _, _, _, hx, hS.2.2.1, hS.2.2.2⟩
  · rintro rfl
    have := q2.2.1
    unfold Bx at this hx
    rw [hx] at this
    cases this
    exact hS.1 rfl
  · rintro rfl
    have := q2.2.2
    unfold Bd at this
    unfold Bx at hx
    rw [hx] at this
    cases this
theorem wpListIn_appN {F : Fence} {n : Nat} {P : Program} {w : World} {ops : Array Oper} {rest : List Oper} {x : Oper} {a : Act} {Q : Exit → Act → World → Prop} (hgd : x.guard = none) (s y : Operand) (T : TypeId)
    (ho : x.op = .call { callee := .builtin .append, args := #[s, y], argTypes := #[T, T] })
    {base : Nat} {E : TypeId} (hT : P.underlying T = some (.slice E)) (hinfo : (P.info? E).map (fun i => (i.zero, i.size, i.bytes)) = some (some zeroNv, 6, 48))
    (v : Value) (l : List Nt) (hs : a.eval s = v) (h : ON w base E v l) (ad : Option Addr) (m : List Nt) (c n' : Nat) (hn : n' = m.length) (hx : a.eval y = .slice ad n' c) (hrow : RowN w ad m) (hnil : ad = none → c = 0)
    (hlen : l.length + m.length ≤ 1000000000000) (hbase : base ≤ w.heap.size)
    (hk : ∀ v' w', ON w' base E v' (l ++ m) → w.grownBy w' v.ownBlock → G.Grew w v v' → wpListIn F n P ops Q rest (a.put x.dst v') w') : wpListIn F n P ops Q (x :: rest) a w := by
  subst hn
  obtain ⟨v', w', hr, h2, h3, h4⟩ := run_appN hT hinfo h x.type ad m c hrow hnil hlen hbase
  refine wpListIn_plain hgd fun K hK => ?_
  unfold Oper.wpIn
  refine ⟨by simp [Oper.about, ho, resolve, Target.leads, Sem.run_pure], ?_⟩
  rw [Oper.semAt_plain F _ _ (by rw [ho]; intro c hc'; cases hc')]
  simp [execOp, ho, resolve, invoke, builtin, hs, hx, hr, Result.andThen]
  exact hK _ _ (hk v' w' h2 h3 h4)
theorem wpListIn_appD {F : Fence} {n : Nat} {P : Program} {w : World} {ops : Array Oper} {rest : List Oper} {x : Oper} {a : Act} {Q : Exit → Act → World → Prop} (hgd : x.guard = none) (s y : Operand) (T : TypeId)
    (ho : x.op = .call { callee := .builtin .append, args := #[s, y], argTypes := #[T, T] })
    {base : Nat} {E : TypeId} (hT : P.underlying T = some (.slice E)) (hinfo : (P.info? E).map (fun i => (i.zero, i.size, i.bytes)) = some (some (.agg #[.int .i64 0, .int .i64 0]), 2, 16))
    (v : Value) (l : List Dt) (hs : a.eval s = v) (h : OD w base E v l) (ad : Option Addr) (m : List Dt) (c n' : Nat) (hn : n' = m.length) (hx : a.eval y = .slice ad n' c) (hrow : RowD w ad m) (hnil : ad = none → c = 0)
    (hlen : l.length + m.length ≤ 1000000000000) (hbase : base ≤ w.heap.size)
    (hk : ∀ v' w', OD w' base E v' (l ++ m) → w.grownBy w' v.ownBlock → G.Grew w v v' → wpListIn F n P ops Q rest (a.put x.dst v') w') : wpListIn F n P ops Q (x :: rest) a w := by
  subst hn
  obtain ⟨v', w', hr, h2, h3, h4⟩ := run_appD hT hinfo h x.type ad m c hrow hnil (by omega) hbase
  refine wpListIn_plain hgd fun K hK => ?_
  unfold Oper.wpIn
  refine ⟨by simp [Oper.about, ho, resolve, Target.leads, Sem.run_pure], ?_⟩
  rw [Oper.semAt_plain F _ _ (by rw [ho]; intro c hc'; cases hc')]
  simp [execOp, ho, resolve, invoke, builtin, hs, hx, hr, Result.andThen]
  exact hK _ _ (hk v' w' h2 h3 h4)
theorem infoN : (Tryz.prog.info? 35).map (fun i => (i.zero, i.size, i.bytes)) = some (some zeroNv, 6, 48) := by kernel_rfl
theorem infoD : (Tryz.prog.info? 33).map (fun i => (i.zero, i.size, i.bytes)) = some (some (.agg #[.int .i64 0, .int .i64 0]), 2, 16) := by kernel_rfl

/-- An iterator over all below a dot. -/
def Ib (w : World) (m : Nat) (l : List Nt) (d : Dt) (e : Ending) (w' : World) : Prop :=
  ∃ b1 b2 : Nat, e = .returned (.func (.func 61) #[] #[.pointer (some ⟨b1, 0, none⟩), .pointer (some ⟨b2, 0, none⟩)]) ∧ Qb m b1 b2 d l w' ∧ Below w.heap.size w w'
theorem enters_below : ∀ args w, (callFunc 61 args).run Tryz.prog w = .ok (.enter 61 args) w := enters_of Tryz.func61 (by kernel_rfl) rfl
set_option maxRecDepth 100000 in
theorem tbelow_any (m : Nat) (l : List Nt) (d : Dt) (w : World) (h : Fo w m l) : Calls Tryz.prog 39 #[.map (some m), dv d] w fun e w' => Ib w m l d e w' := by
  have hmf : ∀ (fn : Fn) (first cap : Array Value) (w : World), (Instr.makeFunc fn first cap).run Tryz.prog w = .ok (.func fn first cap) w := fun _ _ _ _ => rfl
  have h1 : (w.alloc (.cells #[.map (some m)] 74)).heap.size = w.heap.size + 1 := by simp
  have k1 := bd_new (w.alloc (.cells #[.map (some m)] 74)) d
  rw [h1] at k1
  have hb : Below w.heap.size w ((w.alloc (.cells #[.map (some m)] 74)).alloc (.cells #[.int .i64 d.1, .int .i64 d.2] 33)) := (bel_box _ _).alloc (by simp) _
  have HQ : Hid (Qb m w.heap.size (w.heap.size + 1) d l ((w.alloc (.cells #[.map (some m)] 74)).alloc (.cells #[.int .i64 d.1, .int .i64 d.2] 33))) := ⟨h.keep hb, (bx_new w _ _).keep (bel_box _ _), k1⟩
  have HB := Lib.hid hb
  clear h h1 k1 hb
  go_enter Tryz.func39, Tryz.ntmps39
  go_wp2_with fail
  go_ret
  exact ⟨_, _, rfl, HQ.out, HB.out⟩
set_option maxRecDepth 100000 in
theorem tall_any (m : Nat) (l : List Nt) (w : World) (h : Fo w m l) : Calls Tryz.prog 60 #[.map (some m)] w fun e w' => Ib w m l (0, 0) e w' := by
  have HC := Lib.hid (tbelow_any m l (0, 0) w h)
  clear h
  go_enter Tryz.func60, Tryz.ntmps60
  go_wp2_with fail
  refine HC.out.mono ?_
  rintro e w2 ⟨b1, b2, rfl, hq, hb⟩
  have HQ := Lib.hid hq
  have HB := Lib.hid hb
  clear hq hb HC
  go_wp2_with fail
  go_ret
  exact ⟨_, _, rfl, HQ.out, HB.out⟩
set_option maxRecDepth 100000 in
theorem may_any (d : Dt) (w : World) : Calls Tryz.prog 36 #[dv d] w fun e w' => e = .returned (.bool (rootR d || validR d)) ∧ Below w.heap.size w w' := by
  have HR := Lib.hid (fun w => D.root_any d w)
  have HV := Lib.hid (fun w => D.valid_any d w)
  have HD := Lib.hid (bd_new w d)
  have HB := Lib.hid (bel_box w (.cells #[.int .i64 d.1, .int .i64 d.2] 33))
  generalize rootR d = r at *
  generalize validR d = v at *
  go_enter Tryz.func36, Tryz.ntmps36
  go_wp2_with fail
  generalize w.alloc (.cells #[.int .i64 d.1, .int .i64 d.2] 33) = w1 at *
  have c0 := HD.out.c0
  have c1 := HD.out.c1
  go_wp2_with fail
  refine (HR.out _).mono ?_
  rintro e w2 ⟨rfl, hb⟩
  have HD2 := Lib.hid (HD.out.keep hb)
  have HB2 := Lib.hid (bel_tr HB.out hb)
  clear hb c0 c1
  cases r with
  | true =>
    go_wp2_with fail
    go_ret
    exact ⟨rfl, HB2.out⟩
  | false =>
    have c0 := HD2.out.c0
    have c1 := HD2.out.c1
    go_wp2_with fail
    refine (HV.out _).mono ?_
    rintro e w3 ⟨rfl, hb⟩
    have HB3 := Lib.hid (bel_tr HB2.out hb)
    clear hb c0 c1
    cases v with
    | true =>
      go_wp2_with fail
      go_ret
      exact ⟨rfl, HB3.out⟩
    | false =>
      go_wp2_with fail
      go_ret
      exact ⟨rfl, HB3.out⟩
end Go.Proofs.YtodjccfaipkpfaaGreatDoor.Un
end

/-
  Order of the program.
-/
section
namespace Go.Proofs.YtodjccfaipkpfaaGreatDoor.Un
set_option linter.unusedVariables false
open Go.RowKit V Go.Shelf D Nd Qs Wk
attribute [local go_sem] Oper.semAt_some

def orderP (l : List Nt) : List Nt × Int := if validS l = true then (orderS l, 0) else ([], 2)
abbrev TN : TypeId := 22
abbrev EN : TypeId := 35
theorem make_cap_n (c : Nat) (hc : c ≤ 1000000) (w : World) :
    ∃ w', (Instr.makeSlice 22 (.int .i64 0) (.int .i64 (c : Int))).run Tryz.prog w = .ok (.slice (some ⟨w.heap.size, 0, none⟩) 0 c) w' ∧ ON w' w.heap.size EN (.slice (some ⟨w.heap.size, 0, none⟩) 0 c) [] ∧ Below w.heap.size w w' := by
  obtain ⟨i, hi, hz0, hz1, hz2⟩ := G.info_of infoN
  obtain ⟨w', h1, h2, h3⟩ := run_make_own (P := Tryz.prog) w w.heap.size 22 35 i zeroNv 6 Tryz.underlying22 hi hz0 hz1 .i64 .i64 c (by rw [hz2]; omega) (by unfold maxLen; omega) (Nat.le_refl _)
  exact ⟨w', h1, h2, (Below.refl _ _).grown h3 (Nat.le_refl _) (fun k hk => by cases hk)⟩
end Go.Proofs.YtodjccfaipkpfaaGreatDoor.Un
end

/-
  Children of the program.
-/
section
namespace Go.Proofs.YtodjccfaipkpfaaGreatDoor.Un
set_option linter.unusedVariables false
open Go.RowKit V Go.Shelf D Nd Qs Wk
attribute [local go_sem] Oper.semAt_some
attribute [local irreducible] Sch.heldN Sch.stepV Sch.stepE

def childP (l : List Nt) (d : Dt) : List Nt × Int := if (validS l && (rootR d || validR d)) = true then (childS l d, 0) else ([], 2)
theorem load_dotB {w : World} {b : Nat} {d : Dt} (h : Bd w b d) : (Instr.loadAt 33 (.pointer (some ⟨b, 0, none⟩))).run Tryz.prog w = .ok (dv d) w := by
  have h0 := h.c0
  have h1 := h.c1
  go_simp
theorem Tr.In.step {A A2 : World} {base G size n : Nat} {tS E : TypeId} {xs : List Value} {v v2 : Value} {o : Obj} {T : Tr} (h : T.In A) (hb : Bx A G v tS) (ho : A.ownsRow base E size v n xs) (hne : tS ≠ E)
    (hS : tS ≠ 126) (hE : E ≠ 126) (hg : (A.alloc o).grownBy A2 v.ownBlock) : T.In (A2.setCell ⟨G, 0, none⟩ v2) := by
  have hba := bel_box A o
  have h1 := hb.keep hba
  have h2 := row_below ho hba
  have hx : Bx A2 G v tS := h1.gb hg (row_ne h2 h1 hne)
  have q2 : T.In A2 := by
    have h0 := h.keep hba
    rcases h2.2 with ⟨rfl, -⟩ | ⟨g, cap, cur, rfl, hbb, hgg, -⟩
    · exact h0.keep (bel_none hg)
    · exact h0.turn hg hgg fun vs t fr e => by cases e; exact hE
  exact q2.turn (gb_setCell A2 G 0 v2) hx fun vs t fr e => by cases e; exact hS
end Go.Proofs.YtodjccfaipkpfaaGreatDoor.Un
end

/-
  path of the program's tree.
-/
section
namespace Go.Proofs.YtodjccfaipkpfaaGreatDoor.Un
set_option linter.unusedVariables false
open Go.RowKit V Go.Shelf D Nd Qs Wk
attribute [local go_sem] Oper.semAt_some
attribute [local irreducible] Sch.heldN Sch.stepV Sch.stepE Sch.heldX

abbrev TD : TypeId := 25
abbrev ED : TypeId := 33
/-- The path to a dot, if a node with it is reached. -/
def pathQ (l : List Nt) (d : Dt) : Option (List Dt) := if rootR d = true then none else pathS l (l.length + 1) d
theorem pathQ_some {l : List Nt} {d : Dt} {p : List Dt} (hr : rootR d = false) (h : Pt l d p) : pathQ l d = some p := by
  unfold pathQ
  rw [if_neg (by rw [hr]; decide)]
  exact pt_iff.1 h
theorem pathQ_none {l : List Nt} (hv : validS l = true) {d : Dt} (h : ∀ x ∈ orderS l, x.1 ≠ d) : pathQ l d = none := by
  unfold pathQ
  split
  · rfl
  · rename_i hr
    rcases hp : pathS l (l.length + 1) d with _ | p
    · rfl
    · exfalso
      rcases pt_inv (pt_iff.2 hp) with ⟨k, -⟩ | ⟨-, x, q, h1, -, -⟩
      · exact hr k
      · obtain ⟨h2, h3⟩ := at_some h1
        exact h x ((order_mem hv).2 ⟨h2, p, by rw [h3]; exact pt_iff.2 hp⟩) h3
theorem all_root {l : List Nt} (hv : validS l = true) {A : List At} {x : At} {B : List At} (h : allD l = A ++ x :: B) : rootR x.2.1 = false := by
  have hx : x.2 ∈ orderS l := by rw [← all_snd, h]; simp
  exact not_root ((validS_iff.1 hv).1 _ ((order_mem hv).1 hx).1)
theorem pfold_len {l : List Nt} (hv : validS l = true) {A B : List At} (h : allD l = A ++ B) : (A.foldl pathF []).length ≤ l.length := by
  rcases List.eq_nil_or_concat A with rfl | ⟨A', z, rfl⟩
  · simp
  · rw [List.concat_eq_append] at h ⊢
    obtain ⟨-, h2⟩ := all_path hv (A := A') (x := z) (B := B) (by simpa using h)
    rw [List.foldl_append]
    exact pt_len h2
theorem eql_yes {p q : Dt} (h : p = q) : ∀ w, Sem.run Tryz.prog (binOp .eql 33 (.agg #[.int .i64 p.1, .int .i64 p.2]) (.agg #[.int .i64 q.1, .int .i64 q.2])) w = .ok (.bool true) w := fun w => by
  have := eql_dot p q w
  rw [this]
  simp [h]
/-- A block with a node, wholly. -/
def Nw (w : World) (b : Nat) (x : Nt) : Prop := w.heap[b]? = some (.cells (nc x) 35 (0, 0))
theorem Nw.nb {w : World} {b : Nat} {x : Nt} (h : Nw w b x) : Nb w b x := by
  have hc : ∀ j, w.cell? ⟨b, j, none⟩ = (nc x)[j]? := fun j => by unfold Nw at h; simp only [World.cell?, h]; rfl
  exact ⟨hc 0, hc 1, hc 2, hc 3, hc 4, hc 5⟩
theorem Nw.keep {w w' : World} {b : Nat} {x : Nt} (h : Nw w b x) (hb : Below w.heap.size w w') : Nw w' b x := (hb.block b (Array.getElem?_eq_some_iff.1 h).1).trans h
theorem Nw.gb {w w' : World} {b : Nat} {x : Nt} {r : Option Nat} (h : Nw w b x) (hg : w.grownBy w' r) (hr : some b ≠ r) : Nw w' b x := (hg.block b (Array.getElem?_eq_some_iff.1 h).1 hr).trans h
theorem Nw.row (x : Nt) (b : Nat) (A A' : World) (row : Option Nat) (h : Nw A b x) (hg : A.grownBy A' row) (hr : ∀ r, row = some r → r < b) : Nw A' b x := h.gb hg fun e => by have := hr b e.symm; omega
theorem nw_row {A : World} {base size n b : Nat} {v : Value} {E : TypeId} {x : Nt} {xs : List Value} (h : A.ownsRow base E size v n xs) (hb : Nw A b x) (ht : 35 ≠ E) : some b ≠ v.ownBlock := fun e => by
  rcases h.2 with ⟨rfl, -⟩ | ⟨g, cap, cur, rfl, hbb, hgg, -⟩
  · cases e
  · have e2 : b = g := Option.some.inj e
    subst e2
    unfold Nw at hb
    rw [hgg] at hb
    cases hb
    exact ht rfl
theorem wpIn_app {F : Fence} {n : Nat} {P : Program} {w : World} {x : Oper} {a : Act} {K : Act → World → Prop} {Q : Exit → Act → World → Prop} (s y : Operand) (T : TypeId)
    (ho : x.op = .call { callee := .builtin .append, args := #[s, y], argTypes := #[T, T] }) (v u v' : Value) (w' : World) (hs : a.eval s = v) (hx : a.eval y = u) (hrun : (Builtin.append_ #[T, T] x.type #[v, u]).run P w = .ok v' w') (hk : K (a.put x.dst v') w') : x.wpIn F n P a w K Q := by
  unfold Oper.wpIn
  refine ⟨by simp [Oper.about, ho, resolve, Target.leads, Sem.run_pure], ?_⟩
  rw [Oper.semAt_plain F _ _ (by rw [ho]; intro c hc'; cases hc')]
  simp [execOp, ho, resolve, invoke, builtin, hs, hx, hrun, Result.andThen]
  exact hk
theorem bx_ne {w : World} {b c : Nat} {u v : Value} {s t : TypeId} (h : Bx w b u s) (k : Bx w c v t) (ht : s ≠ t) : b ≠ c := by
  rintro rfl
  unfold Bx at h k
  rw [h] at k
  cases k
  exact ht rfl
theorem bxd_ne {w : World} {b c : Nat} {u : Value} {s : TypeId} {d : Dt} (h : Bx w b u s) (k : Bd w c d) : b ≠ c := by
  rintro rfl
  unfold Bx at h
  unfold Bd at k
  rw [h] at k
  cases k
theorem tx_two {lr n : Nat} {P : Program} {ops : List Oper} {Q : Exit → Act → World → Prop} {S : World → Prop} {i j : Nat} {r s : Sch.Tn} {a : Act} {w : World} (h1 : Sch.heldX lr n P ops.toArray Q S (.one i r) a w) (h2 : Sch.heldX lr n P ops.toArray Q S (.one j s) a w) : Sch.heldX lr n P ops.toArray Q S (.two i r j s) a w := by
  unfold Sch.heldX at h1 h2 ⊢
  exact ⟨h1, h2⟩
theorem OD.take2 {w : World} {base : Nat} {E : TypeId} {a : Option Addr} {n c : Nat} {l : List Dt} (h : OD w base E (.slice a n c) l) (k : Nat) (hk : k ≤ l.length) : OD w base E (.slice a k c) (l.take k) := by
  have hx := h
  obtain ⟨a', c', e, -, hn, hc, hh⟩ := h.row
  simp only [Value.slice.injEq] at e
  obtain ⟨rfl, rfl, rfl⟩ := e
  rcases a with _ | x
  · obtain ⟨rfl, rfl⟩ := hn rfl
    have : k = 0 := by simpa using hk
    subst this
    exact OD.nil _ _ _
  · obtain ⟨e1, -⟩ := hh x rfl
    rw [e1] at hx ⊢
    unfold OD at hx ⊢
    have h2 := ownsRow_take hx hk
    rw [List.length_take, Nat.min_eq_left hk]
    have e3 : (cellsD l).take (k * 2) = cellsD (l.take k) := by
      clear hx h2 hn hc hh e1 h hk
      induction l generalizing k with
      | nil => simp [cellsD]
      | cons d t ih =>
        cases k with
        | zero => simp [cellsD]
        | succ k =>
          rw [show (k + 1) * 2 = k * 2 + 1 + 1 by omega, cellsD]
          simp only [List.take_succ_cons]
          rw [ih k]
          rfl
    rw [← e3]
    exact h2
/-- How a path, or none, is returned. -/
def PthV (w' : World) (base : Nat) (v : Value) (r : Option (List Dt)) : Prop := match r with | none => v = .slice none 0 0 | some p => OD w' base ED v p
theorem ret_path {w : World} {B D : Nat} {a : Option Addr} {n c : Nat} (h : Bx w B (.slice a n c) TD) (hD : B ≠ D) {tmps : Array Value} (h4 : tmps.getD 4 undef = .pointer (some ⟨B, 0, none⟩)) :
    (results Tryz.f38 tmps).run Tryz.prog (w.putObj D (.deferred none)) = .ok (.slice a n c) (w.putObj D (.deferred none)) := by
  have hx : Bx (w.putObj D (.deferred none)) B (.slice a n c) TD := (World.putObj_heap_other hD).trans h
  have c0 := hx.cell
  rw [results_cell1 (fn := Tryz.f38) (p := 4) (ty := 25) rfl, h4]
  go_simp
/-- Between two rounds of the walk that looks for a dot. -/
def Jp (w : World) (base : Nat) (m b1 b2 : Nat) (d : Dt) (l : List Nt) (pre : List At) (A : World) : Prop :=
  Cj w base (w.heap.size + 1 + 1) TD ED 2 (pre.foldl pathF []).length (cellsD (pre.foldl pathF [])) A ∧ Qb m b1 b2 (0, 0) l A ∧ Bx A (w.heap.size + 1) (.slice none 0 0) TD ∧ Bd A w.heap.size d ∧ ∀ x ∈ pre, x.2.1 ≠ d
/-- Where it was found. -/
def Jf (w : World) (base : Nat) (m b1 b2 : Nat) (d : Dt) (l : List Nt) (A : World) : Prop :=
  Below w.heap.size w A ∧ Qb m b1 b2 (0, 0) l A ∧ ∃ v p, Bx A (w.heap.size + 1) v TD ∧ OD A base ED v p ∧ pathQ l d = some p
theorem Jp.abF {w : World} {base m b1 b2 B : Nat} {d : Dt} {l : List Nt} {pre : List At} (hB : w.heap.size ≤ B) (hm : m < B) : AbF [EA] B (Jp w base m b1 b2 d l pre) :=
  (Cj.abF hB (by decide) (by decide)).and ((Qb.abF hm).and ((Bx.abF (by decide)).and ((Bd.abF (by decide)).and (AbF.const _))))
theorem Jf.abF {w : World} {base m b1 b2 B : Nat} {d : Dt} {l : List Nt} (hB : w.heap.size ≤ B) (hm : m < B) : AbF [EA] B (Jf w base m b1 b2 d l) :=
  (below_abF hB).and ((Qb.abF hm).and (AbF.ex fun v => AbF.ex fun p => (Bx.abF (by decide)).and ((own_abF (by decide)).and (AbF.const _))))

set_option maxRecDepth 100000 in
set_option maxHeartbeats 8000000 in
theorem tpath_any (m : Nat) (l : List Nt) (hv : validS l = true) (hl : l.length ≤ 400000) (d : Dt) (w : World) (h : Fo w m l) :
    Calls Tryz.prog 38 #[.map (some m), dv d] w fun e w' => ∃ v, e = .returned v ∧ PthV w' w.heap.size v (pathQ l d) ∧ Below w.heap.size w w' := by
  have HV := Lib.hid hv
  have hz1 : (w.alloc (.cells #[.int .i64 d.1, .int .i64 d.2] 33)).heap.size = w.heap.size + 1 := by simp
  have hz2 : ((w.alloc (.cells #[.int .i64 d.1, .int .i64 d.2] 33)).alloc (.cells #[.slice none 0 0] TD)).heap.size = w.heap.size + 1 + 1 := by simp
  have k1 := bx_new (w.alloc (.cells #[.int .i64 d.1, .int .i64 d.2] 33)) (.slice none 0 0) TD
  rw [hz1] at k1
  have k2 := bx_new ((w.alloc (.cells #[.int .i64 d.1, .int .i64 d.2] 33)).alloc (.cells #[.slice none 0 0] TD)) (.slice none 0 0) TD
  rw [hz2] at k2
  have hb : Below w.heap.size w (((w.alloc (.cells #[.int .i64 d.1, .int .i64 d.2] 33)).alloc (.cells #[.slice none 0 0] TD)).alloc (.cells #[.slice none 0 0] TD)) := ((bel_box _ _).alloc (by simp) _).alloc (by simp; omega) _
  have HD := Lib.hid ((bd_new w d).keep ((bel_box (w.alloc (.cells #[.int .i64 d.1, .int .i64 d.2] 33)) (.cells #[.slice none 0 0] TD)).alloc (by simp) (.cells #[.slice none 0 0] TD)))
  have HR := Lib.hid (k1.keep (bel_box _ (.cells #[.slice none 0 0] TD)))
  have HP := Lib.hid k2
  have HF := Lib.hid (h.keep hb)
  have HB := Lib.hid hb
  have HA := Lib.hid (fun (w : World) (h : Fo w m l) => (callsIn_wide (n := 2)).2 (tall_any m l w h))
  have HLn : Hid ((allD l).length ≤ l.length) := by show (BD l (0, 0) 0).length ≤ _; rw [bd_len]; exact bw_len hv (root_path l)
  clear hv k1 k2 hb h hz1 hz2
  refine (callsIn_wide (n := 3)).1 ?_
  refine callsIn_of_wp_marks Tryz.func38 rfl trivial ?_ rfl
  simp only [Tryz.ntmps38, List.size_toArray, List.length_cons, List.length_nil, Nat.reduceAdd, Nat.reduceSub, Array.replicate_succ, Array.replicate_zero, List.push_toArray, List.append_toArray, List.nil_append, List.cons_append]
  gi_wp2
  have HA2 := Lib.hid (HA.out _ HF.out)
  generalize ((w.alloc (.cells #[.int .i64 d.1, .int .i64 d.2] 33)).alloc (.cells #[.slice none 0 0] TD)).alloc (.cells #[.slice none 0 0] TD) = w1 at *
  refine ⟨trivial, HA2.out.mono ?_⟩
  rintro e w2 ⟨b1, b2, rfl, hq, hb⟩
  replace HD := Lib.hid (HD.out.keep hb)
  replace HR := Lib.hid (HR.out.keep hb)
  replace HP := Lib.hid (HP.out.keep hb)
  replace HB := Lib.hid (bel_tr HB.out hb)
  have HQ := Lib.hid hq
  have HSQ := Lib.hid (below_seq l HV.out hl m (0, 0) [] (root_path l) fit_root w2 b1 b2)
  have HBs : Hid (w.heap.size ≤ w2.heap.size ∧ b2 < w2.heap.size ∧ w.heap.size + 1 + 1 < w2.heap.size) := ⟨HB.out.size, hq.2.2.lt, HP.out.lt⟩
  clear hq hb HA HA2 HF
  gi_wp2
  refine range_own (by decide) rfl enters_below rfl (allD l) (Qb m b1 b2 (0, 0) l) HSQ.out (fun _ => rfl) (fun pre A => Jp w w2.heap.size m b1 b2 d l pre A) (fun c A => c = .ret ∧ Jf w w2.heap.size m b1 b2 d l A)
    (fun pre => Jp.abF HBs.out.1 (Fo.lt HQ.out.1)) (fun c => (AbF.const _).and (Jf.abF HBs.out.1 (Fo.lt HQ.out.1))) (fun pre A h => h.2.1) (fun c A h => h.2.2.1) ⟨⟨HB.out, _, HP.out, OD.nil _ _ _⟩, HQ.out, HR.out, HD.out, fun x h => by cases h⟩ ?a1 (fun x A => A.alloc (.cells (nc x.2) 35)) (fun x b W => Nw W b x.2) (fun x W => ⟨bel_box _ _, heap_new W _⟩) (fun x b A A' row => Nw.row x.2 b A A' row) ?assign ?body ?done ?stop
  case assign =>
    intro l' y A K g hg hK
    gi_wp2
    rw [← hg]
    exact hK
  case body =>
    rintro l' pre y b A ⟨⟨h1, v1, h2, h3⟩, h4, h5, h6, h7⟩ hy hbl hpre
    obtain ⟨B2, hpre⟩ := hpre
    rw [List.append_assoc] at hpre
    have hal : allD l = pre ++ y :: B2 := by rw [← hpre]; rfl
    obtain ⟨hk1, hk2⟩ := all_path HV.out hal
    have hrt := all_root HV.out hal
    have hpl : pre.length ≤ 400000 := by
      have := HLn.out
      rw [hal, List.length_append] at this
      omega
    obtain ⟨q, hq⟩ : ∃ q, q = pre.foldl pathF [] := ⟨_, rfl⟩
    rw [← hq] at h3 hk1 hk2
    have hq2 : (pre ++ [y]).foldl pathF [] = q.take y.1 ++ [y.2.1] := by rw [List.foldl_append, ← hq]; rfl
    have H3 : Hid (OD A w2.heap.size ED v1 q) := h3
    obtain ⟨a1, cc1, rfl, -, -, hcc, -⟩ := H3.out.row
    have hkc : (y.1 : Int) ≤ (cc1 : Int) := by omega
    have hkl : (y.1 : Int) ≤ (q.length : Int) := by omega
    have c0 := h2.cell
    have H1 := Lib.hid h1
    have H2 := Lib.hid h2
    have H4 := Lib.hid h4
    have H5 := Lib.hid h5
    have H6 := Lib.hid h6
    have H7 := Lib.hid h7
    have HY := Lib.hid hy
    have HK2 := Lib.hid hk2
    have HQ2 := Lib.hid hq2
    have HRt := Lib.hid hrt
    have HKl : Hid (y.1 ≤ q.length ∧ q.length ≤ 400000) := ⟨hk1, by
      have := pfold_len HV.out hal
      rw [hq]
      omega⟩
    have HYd : Hid (Nw A.drew b y.2) := hy.keep ((Below.refl _ _).drew)
    have L1 := Lib.hid (fun w' (h : Nw w' b y.2) => Nb.loadD h.nb)
    have H1d := Lib.hid h1.drew
    have H2d : Hid (Bx A.drew (w.heap.size + 1 + 1) (.slice a1 q.length cc1) TD) := h2.keep ((Below.refl _ _).drew)
    have H3d : Hid (OD A.drew w2.heap.size ED (.slice a1 q.length cc1) q) := H3.out.below ((Below.refl _ _).drew)
    have H4d : Hid (Qb m b1 b2 (0, 0) l A.drew) := h4.keep ((Below.refl _ _).drew)
    have H5d : Hid (Bx A.drew (w.heap.size + 1) (.slice none 0 0) TD) := h5.keep ((Below.refl _ _).drew)
    have H6d : Hid (Bd A.drew w.heap.size d) := h6.keep ((Below.refl _ _).drew)
    have HKd : Hid (Kp [EA] w2.heap.size A A.drew) := Kp.bel ((Below.refl _ _).drew)
    have hle : w2.heap.size ≤ A.drew.heap.size := by
      have := (Array.getElem?_eq_some_iff.1 HYd.out).1
      omega
    have hown : (Value.slice a1 y.1 cc1).ownBlock = (Value.slice a1 q.length cc1).ownBlock := by cases a1 <;> rfl
    clear h1 h2 h3 h4 h5 h6 hy hk2 hq hq2 hpre hal hrt hpl hcc hk1 c0 H1 H2 H3 H4 H5 H6 HY
    gi_wp2
    refine Sch.wpIn_region_tx (fun w' => Nw w' b y.2) (.val 1 (.val 3 (.val 4 (.two 0 (.val 2 (.one 5 (.one 6 (.one 7 .done)))) 5 (.one 0 (.val 2 (.one 6 (.one 7 .done)))))))) (by kernel_rfl) (by kernel_rfl) (by kernel_rfl) HYd.out ?_
    repeat (first
      | (refine Sch.tx_q rfl rfl rfl (fun K hK => ?_); go_big_quiet_op; (first | refine hK _ ?_ | refine ⟨_, fun _ _ => rfl, hK _ ?_⟩); clear hK K)
      | (refine Sch.tx_chk _ _ _ rfl rfl rfl rfl rfl ?_; simp only [Act.put, List.setIfInBounds_toArray, List.set_cons_zero, List.set_cons_succ])
      | (refine Sch.tx_load _ _ _ _ _ rfl rfl rfl rfl (by first | exact L1.out) rfl ?_; simp only [Act.put, List.setIfInBounds_toArray, List.set_cons_zero, List.set_cons_succ]))
    generalize A.drew = Ad at *
    have hba := bel_box Ad (.cells #[.int .i64 y.2.1.1, .int .i64 y.2.1.2] ED)
    have hO : OD (Ad.alloc (.cells #[.int .i64 y.2.1.1, .int .i64 y.2.1.2] ED)) w2.heap.size ED (.slice a1 y.1 cc1) (q.take y.1) := OD.take2 (H3d.out.below hba) y.1 HKl.out.1
    obtain ⟨v5, W5, hrun, ho5, hg5, -⟩ := run_appD (P := Tryz.prog) Tryz.underlying25 infoD hO TD (some ⟨Ad.heap.size, 0, none⟩) [y.2.1] 1 (RowD.lit Ad [y.2.1] _ _ _ rfl) (fun h => by cases h) (by rw [List.length_take]; simp only [List.length_cons, List.length_nil]; have := HKl.out; omega) (by simp; omega)
    obtain ⟨m2, hm2⟩ : ∃ m2, m2 = q.take y.1 ++ [y.2.1] := ⟨_, rfl⟩
    rw [← hm2] at ho5 HQ2
    have HM2 := Lib.hid hm2
    clear hm2
    have hg5' := hg5
    rw [hown] at hg5'
    obtain ⟨g1, g2, g3⟩ := Cj.step (ks := [EA]) (C := w2.heap.size) H1d.out HBs.out.1 (by omega) H2d.out H3d.out (by decide) (by decide) (by decide) hg5' ho5
    have g4 := Qb.step (v2 := v5) H4d.out H2d.out H3d.out (by decide) (by decide) ⟨by decide, .inr HBs.out.2.1, by decide, by decide⟩ hg5'
    have hrw := (row_ne (row_below H3d.out hba) (H5d.out.keep hba) (by decide))
    have g5 : Bx (W5.setCell ⟨w.heap.size + 1 + 1, 0, none⟩ v5) (w.heap.size + 1) (.slice none 0 0) TD := ((H5d.out.keep hba).gb hg5' hrw).gb (gb_setCell _ _ _ _) (by simp)
    have g6 : Bd (W5.setCell ⟨w.heap.size + 1 + 1, 0, none⟩ v5) w.heap.size d := by
      have h8 : Bd W5 w.heap.size d := (hg5'.block _ (H6d.out.keep hba).lt fun e => by
        have := (H3d.out.lt _ e.symm).1
        have := HBs.out.1
        have := HBs.out.2.2
        omega).trans (H6d.out.keep hba)
      exact ((gb_setCell W5 (w.heap.size + 1 + 1) 0 v5).block _ h8.lt (by simp; omega)).trans h8
    obtain ⟨a5, c5, rfl, -, -, -, -⟩ := ho5.row
    have G1 := Lib.hid g1
    have G2 := Lib.hid (HKd.out.trans g2)
    have G3 := Lib.hid g3
    have G4 := Lib.hid g4
    have G5 := Lib.hid g5
    have G6 := Lib.hid g6
    have HO5 := Lib.hid ho5
    have c3 := g3.cell
    have f3 := g3.free
    have c0 := H2d.out.cell
    have c0B := (H2d.out.keep hba).cell
    have hrun2 : Sem.run Tryz.prog (Builtin.append_ #[25, 25] 25 #[.slice a1 y.1 cc1, .slice (some ⟨Ad.heap.size, 0, none⟩) 1 1]) (Ad.alloc (.cells #[.int .i64 y.2.1.1, .int .i64 y.2.1.2] ED)) = .ok (.slice a5 m2.length c5) W5 := hrun
    clear g1 g2 g3 g4 g5 g6 hrw hO ho5 hrun hg5' H1d H4d H5d H6d HKd
    have HY5 : Hid (Nw W5 b y.2) := (HYd.out.keep hba).gb hg5 (by rw [hown]; exact nw_row (row_below H3d.out hba) (HYd.out.keep hba) (by decide))
    have HY6 : Hid (Nw (W5.setCell ⟨w.heap.size + 1 + 1, 0, none⟩ (.slice a5 m2.length c5)) b y.2) := HY5.out.gb (gb_setCell _ _ _ _) (fun e => by
      have e2 := Option.some.inj e
      have h8 := G3.out
      have h9 := HY5.out
      unfold Bx at h8
      unfold Nw at h9
      rw [e2, h8] at h9
      cases h9)
    refine tx_two ?_ ?_
    · skip
      refine Sch.tx_e rfl rfl (fun K hK => ?_)
      gi_wp2_with fail
      refine hK _ _ HYd.out ?_
      clear hK K
      repeat (first
        | (refine Sch.tx_q rfl rfl rfl (fun K hK => ?_); go_big_quiet_op; (first | refine hK _ ?_ | refine ⟨_, fun _ _ => rfl, hK _ ?_⟩); clear hK K)
        | (refine Sch.tx_chk _ _ _ rfl rfl rfl rfl rfl ?_; simp only [Act.put, List.setIfInBounds_toArray, List.set_cons_zero, List.set_cons_succ]))
      refine Sch.tx_e rfl rfl (fun K hK => ?_)
      gi_wp2_with fail
      refine hK _ _ (HYd.out.keep hba) ?_
      clear hK K
      refine Sch.tx_e rfl rfl (fun K hK => ?_)
      refine wpIn_app _ _ _ rfl _ _ _ _ rfl rfl hrun2 ?_
      simp only [Act.put, List.setIfInBounds_toArray, List.set_cons_zero, List.set_cons_succ]
      refine hK _ _ HY5.out ?_
      clear hK K
      refine Sch.tx_e rfl rfl (fun K hK => ?_)
      gi_wp2_with fail
      refine hK _ _ HY6.out ?_
      clear hK K
      refine Sch.tx_n ?_
      obtain ⟨k0, k1, k2, k3, k4, k5⟩ := HY6.out.nb
      have cd0 := G6.out.c0
      have cd1 := G6.out.c1
      have c9 := (Bx.set G3.out (.slice a5 m2.length c5)).cell
      have r9 := G5.out.cell
      have f9 := G5.out.free
      clear c3 f3 c0 c0B hrun2 L1
      by_cases hd : y.2.1 = d
      · have hyes := eql_yes hd
        gi_wp2
        have hp7 : pathQ l d = some m2 := by
          rw [← hd]
          have h8 := HK2.out
          unfold pathF at h8
          rw [← HM2.out] at h8
          exact pathQ_some HRt.out h8
        have hs7 := gb_setCell (W5.setCell ⟨w.heap.size + 1 + 1, 0, none⟩ (.slice a5 m2.length c5)) (w.heap.size + 1) 0 (.slice a5 m2.length c5)
        have hR7 := Bx.set G5.out (.slice a5 m2.length c5)
        have hO7 : OD ((W5.setCell ⟨w.heap.size + 1 + 1, 0, none⟩ (.slice a5 m2.length c5)).setCell ⟨w.heap.size + 1, 0, none⟩ (.slice a5 m2.length c5)) w2.heap.size ED (.slice a5 m2.length c5) m2 := by
          have hn : ∀ x, (Value.slice a5 m2.length c5).ownBlock = some x → w2.heap.size ≤ x := fun x hx => (HO5.out.lt x hx).1
          have k1 := HBs.out.2.2
          refine OD.keep (OD.keep HO5.out (gb_setCell W5 (w.heap.size + 1 + 1) 0 (.slice a5 m2.length c5)) ?_) hs7 ?_
          · rcases hv : (Value.slice a5 m2.length c5).ownBlock with _ | x
            · exact .inl rfl
            · exact .inr fun e => by have := hn x hv; have := Option.some.inj e; omega
          · rcases hv : (Value.slice a5 m2.length c5).ownBlock with _ | x
            · exact .inl rfl
            · exact .inr fun e => by have := hn x hv; have := Option.some.inj e; omega
        have hQ7 : Qb m b1 b2 (0, 0) l ((W5.setCell ⟨w.heap.size + 1 + 1, 0, none⟩ (.slice a5 m2.length c5)).setCell ⟨w.heap.size + 1, 0, none⟩ (.slice a5 m2.length c5)) := G4.out.turn hs7 fun r e => by
          cases e
          refine ⟨?_, ?_, _, _, _, G5.out, by decide, by decide⟩
          · exact bx_ne G5.out G4.out.2.1 (by decide)
          · exact bxd_ne G5.out G4.out.2.2
        exact ⟨G2.out.trans (Kp.gb hs7 G5.out (by decide)), rfl, bel_low G1.out.1 hs7 (fun x e => by cases e; omega), hQ7, _, _, hR7, hO7, hp7⟩
      · have hne := eql_no hd
        gi_wp2
        exact ⟨G2.out, by rw [HQ2.out]; exact G1.out, G4.out, G5.out, G6.out, fun x hx => by
          rcases List.mem_append.1 hx with hx | hx
          · exact H7.out x hx
          · rw [List.mem_singleton] at hx
            rw [hx]
            exact hd⟩
    · skip
      refine Sch.tx_e rfl rfl (fun K hK => ?_)
      gi_wp2_with fail
      refine hK _ _ (HYd.out.keep hba) ?_
      clear hK K
      refine Sch.tx_e rfl rfl (fun K hK => ?_)
      gi_wp2_with fail
      refine hK _ _ (HYd.out.keep hba) ?_
      clear hK K
      repeat (first
        | (refine Sch.tx_q rfl rfl rfl (fun K hK => ?_); go_big_quiet_op; (first | refine hK _ ?_ | refine ⟨_, fun _ _ => rfl, hK _ ?_⟩); clear hK K)
        | (refine Sch.tx_chk _ _ _ rfl rfl rfl rfl rfl ?_; simp only [Act.put, List.setIfInBounds_toArray, List.set_cons_zero, List.set_cons_succ]))
      refine Sch.tx_e rfl rfl (fun K hK => ?_)
      refine wpIn_app _ _ _ rfl _ _ _ _ rfl rfl hrun2 ?_
      simp only [Act.put, List.setIfInBounds_toArray, List.set_cons_zero, List.set_cons_succ]
      refine hK _ _ HY5.out ?_
      clear hK K
      refine Sch.tx_e rfl rfl (fun K hK => ?_)
      gi_wp2_with fail
      refine hK _ _ HY6.out ?_
      clear hK K
      refine Sch.tx_n ?_
      obtain ⟨k0, k1, k2, k3, k4, k5⟩ := HY6.out.nb
      have cd0 := G6.out.c0
      have cd1 := G6.out.c1
      have c9 := (Bx.set G3.out (.slice a5 m2.length c5)).cell
      have r9 := G5.out.cell
      have f9 := G5.out.free
      clear c3 f3 c0 c0B hrun2 L1
      by_cases hd : y.2.1 = d
      · have hyes := eql_yes hd
        gi_wp2
        have hp7 : pathQ l d = some m2 := by
          rw [← hd]
          have h8 := HK2.out
          unfold pathF at h8
          rw [← HM2.out] at h8
          exact pathQ_some HRt.out h8
        have hs7 := gb_setCell (W5.setCell ⟨w.heap.size + 1 + 1, 0, none⟩ (.slice a5 m2.length c5)) (w.heap.size + 1) 0 (.slice a5 m2.length c5)
        have hR7 := Bx.set G5.out (.slice a5 m2.length c5)
        have hO7 : OD ((W5.setCell ⟨w.heap.size + 1 + 1, 0, none⟩ (.slice a5 m2.length c5)).setCell ⟨w.heap.size + 1, 0, none⟩ (.slice a5 m2.length c5)) w2.heap.size ED (.slice a5 m2.length c5) m2 := by
          have hn : ∀ x, (Value.slice a5 m2.length c5).ownBlock = some x → w2.heap.size ≤ x := fun x hx => (HO5.out.lt x hx).1
          have k1 := HBs.out.2.2
          refine OD.keep (OD.keep HO5.out (gb_setCell W5 (w.heap.size + 1 + 1) 0 (.slice a5 m2.length c5)) ?_) hs7 ?_
          · rcases hv : (Value.slice a5 m2.length c5).ownBlock with _ | x
            · exact .inl rfl
            · exact .inr fun e => by have := hn x hv; have := Option.some.inj e; omega
          · rcases hv : (Value.slice a5 m2.length c5).ownBlock with _ | x
            · exact .inl rfl
            · exact .inr fun e => by have := hn x hv; have := Option.some.inj e; omega
        have hQ7 : Qb m b1 b2 (0, 0) l ((W5.setCell ⟨w.heap.size + 1 + 1, 0, none⟩ (.slice a5 m2.length c5)).setCell ⟨w.heap.size + 1, 0, none⟩ (.slice a5 m2.length c5)) := G4.out.turn hs7 fun r e => by
          cases e
          refine ⟨?_, ?_, _, _, _, G5.out, by decide, by decide⟩
          · exact bx_ne G5.out G4.out.2.1 (by decide)
          · exact bxd_ne G5.out G4.out.2.2
        exact ⟨G2.out.trans (Kp.gb hs7 G5.out (by decide)), rfl, bel_low G1.out.1 hs7 (fun x e => by cases e; omega), hQ7, _, _, hR7, hO7, hp7⟩
      · have hne := eql_no hd
        gi_wp2
        exact ⟨G2.out, by rw [HQ2.out]; exact G1.out, G4.out, G5.out, G6.out, fun x hx => by
          rcases List.mem_append.1 hx with hx | hx
          · exact H7.out x hx
          · rw [List.mem_singleton] at hx
            rw [hx]
            exact hd⟩
  case stop =>
    rintro D c A hD ⟨rfl, h1, h2, v, p, h3, h4, h5⟩ hK
    obtain ⟨a5, c5, rfl, -, -, -, -⟩ := h4.row
    have HK := Lib.hid hK
    have hne : w.heap.size + 1 ≠ D := by have := HBs.out.2.2; omega
    have H3 := Lib.hid h3
    have hDw : w.heap.size ≤ D := Nat.le_trans HBs.out.1 hD
    have F1 : Hid (Below w.heap.size w (A.putObj D (.deferred none))) := (below_abF (tys := []) (Nat.le_refl _)).put _ h1 hDw hK rfl
    have F4 : Hid (PthV (A.putObj D (.deferred none)) w.heap.size (.slice a5 p.length c5) (pathQ l d)) := by
      show PthV _ _ _ _
      rw [h5]
      exact OD.mono ((own_abF (tys := []) (B := 0) (by simp)).put _ h4 (Nat.zero_le _) hK rfl) fun k hk => Nat.le_trans HBs.out.1 (h4.lt k hk).1
    clear h1 h2 h3 h4 h5 hK
    gi_wp2
    exact retM1 (v := .slice a5 p.length c5) rfl HK.out (ret_path H3.out hne rfl) ⟨_, rfl, F4.out, F1.out⟩
  case done =>
    rintro D A hD ⟨⟨h1, v1, h2, h3⟩, h4, h5, h6, h7⟩ hK
    have hno : pathQ l d = none := pathQ_none HV.out fun x hx => by
      rw [← all_snd, List.mem_map] at hx
      obtain ⟨y, hy, rfl⟩ := hx
      exact h7 y hy
    have c0 := h5.cell
    have f0 := h5.free
    have hne : w.heap.size + 1 ≠ D := by have := HBs.out.2.2; omega
    have hDw : w.heap.size ≤ D := Nat.le_trans HBs.out.1 hD
    have hs := gb_setCell A (w.heap.size + 1) 0 (.slice none 0 0)
    have hK2 : (A.setCell ⟨w.heap.size + 1, 0, none⟩ (.slice none 0 0)).heap[D]? = some (.deferred (some [])) := (hs.block D (Array.getElem?_eq_some_iff.1 hK).1 fun e => hne (Option.some.inj e).symm).trans hK
    have HK := Lib.hid hK2
    have H5 := Lib.hid (Bx.set h5 (.slice none 0 0))
    have F1 : Hid (Below w.heap.size w ((A.setCell ⟨w.heap.size + 1, 0, none⟩ (.slice none 0 0)).putObj D (.deferred none))) := (below_abF (tys := []) (Nat.le_refl _)).put _ (bel_low h1 hs fun x e => by cases e; omega) hDw hK2 rfl
    have F4 : Hid (PthV ((A.setCell ⟨w.heap.size + 1, 0, none⟩ (.slice none 0 0)).putObj D (.deferred none)) w.heap.size (.slice none 0 0) (pathQ l d)) := by
      show PthV _ _ _ _
      rw [hno]
      rfl
    clear h1 h2 h3 h4 h5 h6 h7 hK hno hs hK2
    gi_wp2
    exact retM1 (v := .slice none 0 0) rfl HK.out (ret_path H5.out hne rfl) ⟨_, rfl, F4.out, F1.out⟩
end Go.Proofs.YtodjccfaipkpfaaGreatDoor.Un
end

/-
  Below of the program.
-/
section
namespace Go.Proofs.YtodjccfaipkpfaaGreatDoor.Un
set_option linter.unusedVariables false
open Go.RowKit V Go.Shelf D Nd Qs Wk
attribute [local go_sem] Oper.semAt_some

theorem sl_nil (w : World) : Sem.run Tryz.prog (binOp .eql 25 (.slice none 0 0) (.slice none 0 0)) w = .ok (.bool true) w := by kernel_rfl
theorem sl_some (g n c : Nat) (w : World) : Sem.run Tryz.prog (binOp .eql 25 (.slice (some ⟨g, 0, none⟩) n c) (.slice none 0 0)) w = .ok (.bool false) w := by kernel_rfl
def dotsB (l : List Nt) (d : Dt) : List Dt := (Bw l d).map (·.1)
def belowQ (l : List Nt) (d : Dt) : List Dt × Int := if rootR d = true then (dotsB l d, 0) else match pathQ l d with | none => ([], 9) | some _ => (dotsB l d, 0)
def belowP (l : List Nt) (d : Dt) : List Dt × Int := if (validS l && (rootR d || validR d)) = true then belowQ l d else ([], 2)
set_option maxRecDepth 100000 in
set_option maxHeartbeats 8000000 in
theorem below_prog (l : List Nt) (d : Dt) (a : Option Addr) (c : Nat) (w : World) (hx : RowN w a l) (hlx : l.length ≤ 400000) :
    Calls Tryz.prog 22 #[.slice a l.length c, dv d] w fun e w' => ∃ v, e = .returned (.tuple #[v, .int .i64 (belowP l d).2]) ∧ OD w' w.heap.size ED v (belowP l d).1 ∧ Below w.heap.size w w' := by
  have HV := Lib.hid (fun (w : World) (h : RowN w a l) => (callsIn_wide (n := 2)).2 (validS_any l a c w h (by omega)))
  have HMy := Lib.hid (fun (w : World) => (callsIn_wide (n := 2)).2 (may_any d w))
  have HRt := Lib.hid (fun (w : World) => (callsIn_wide (n := 2)).2 (D.root_any d w))
  have HX : Hid (RowN (w.alloc (.cells #[.int .i64 d.1, .int .i64 d.2] 33)) a l) := hx.keep (bel_box _ _)
  have HD := Lib.hid (bd_new w d)
  have HB := Lib.hid (bel_box w (.cells #[.int .i64 d.1, .int .i64 d.2] 33))
  have hli : (l.length : Int) ≤ 400000 := by omega
  have HE : Hid (belowP l d = if (validS l && (rootR d || validR d)) = true then belowQ l d else ([], 2)) := rfl
  have HT := Lib.hid (fun (hv : validS l = true) (w : World) (h : RowN w a l) => (callsIn_wide (n := 2)).2 (treeOf_any l a c w hv h (by omega)))
  have HPa := Lib.hid (fun (m : Nat) (hv : validS l = true) (w : World) (h : Fo w m l) => (callsIn_wide (n := 2)).2 (tpath_any m l hv hlx d w h))
  have HAl := Lib.hid (fun (m : Nat) (w : World) h => (callsIn_wide (n := 2)).2 (tbelow_any m l d w h))
  have HFd : Hid ((rootR d || validR d) = true → fitD d) := fun h => fit_named (by
    rcases hr : rootR d with _ | _
    · rw [hr] at h; exact .inl (by simpa using h)
    · exact .inr hr)
  clear hx
  generalize belowP l d = R at *
  obtain ⟨my, hmy⟩ : ∃ my, my = (rootR d || validR d) := ⟨_, rfl⟩
  rw [← hmy] at HMy HE HFd
  clear hmy
  refine (callsIn_wide (n := 3)).1 ?_
  refine callsIn_of_wp_marks Tryz.func22 rfl trivial ?_ rfl
  simp only [Tryz.ntmps22, List.size_toArray, List.length_cons, List.length_nil, Nat.reduceAdd, Nat.reduceSub, Array.replicate_succ, Array.replicate_zero, List.push_toArray, List.append_toArray, List.nil_append, List.cons_append]
  gi_wp2
  generalize w.alloc (.cells #[.int .i64 d.1, .int .i64 d.2] 33) = w1 at *
  refine ⟨trivial, (HV.out _ HX.out).mono ?_⟩
  rintro e w2 ⟨rfl, hb⟩
  replace HX := Lib.hid (HX.out.keep hb)
  replace HD := Lib.hid (HD.out.keep hb)
  replace HB := Lib.hid (bel_tr HB.out hb)
  clear hb HV
  rcases hv : validS l with _ | _
  · have HE2 : Hid (R = ([], 2)) := by show _ = _; rw [HE.out, hv]; rfl
    clear hv
    gi_wp2
    refine ⟨trivial, ?_⟩
    gi_wp2
    refine retM (v := .tuple #[.slice none 0 0, .int .i64 2]) (by simp [results, Tryz.results22, go_sem]) rfl ?_
    exact ⟨_, by rw [HE2.out], by rw [HE2.out]; exact OD.nil _ _ _, HB.out⟩
  · have HVv := Lib.hid hv
    clear hv
    have c0 := HD.out.c0
    have c1 := HD.out.c1
    gi_wp2
    refine ⟨trivial, (HMy.out _).mono ?_⟩
    rintro e w3 ⟨rfl, hb⟩
    replace HX := Lib.hid (HX.out.keep hb)
    replace HD := Lib.hid (HD.out.keep hb)
    replace HB := Lib.hid (bel_tr HB.out hb)
    clear hb HMy c0 c1
    cases my with
    | false =>
      have HE2 : Hid (R = ([], 2)) := by show _ = _; rw [HE.out, HVv.out]; rfl
      gi_wp2
      refine retM (v := .tuple #[.slice none 0 0, .int .i64 2]) (by simp [results, Tryz.results22, go_sem]) rfl ?_
      exact ⟨_, by rw [HE2.out], by rw [HE2.out]; exact OD.nil _ _ _, HB.out⟩
    | true =>
      have HE3 : Hid (R = belowQ l d) := by show _ = _; rw [HE.out, HVv.out]; rfl
      have hfd := HFd.out rfl
      gi_wp2
      refine ⟨trivial, (HT.out HVv.out _ HX.out).mono ?_⟩
      rintro e w4 ⟨m, rfl, hf, hb⟩
      have HF := Lib.hid hf
      replace HD := Lib.hid (HD.out.keep hb)
      replace HB := Lib.hid (bel_tr HB.out hb)
      clear hf hb HX HT HE
      have c0 := HD.out.c0
      have c1 := HD.out.c1
      gi_wp2
      refine ⟨trivial, (HRt.out _).mono ?_⟩
      rintro e w5 ⟨rfl, hb⟩
      replace HF := Lib.hid (HF.out.keep hb)
      replace HD := Lib.hid (HD.out.keep hb)
      replace HB := Lib.hid (bel_tr HB.out hb)
      clear hb HRt c0 c1
      rcases hr : rootR d with _ | _
      · have HE4 : Hid (R = match pathQ l d with | none => ([], (9 : Int)) | some _ => (dotsB l d, 0)) := by show _ = _; rw [HE3.out]; unfold belowQ; rw [if_neg (by rw [hr]; decide)]
        have HRr := Lib.hid hr
        clear hr HE3
        have c0 := HD.out.c0
        have c1 := HD.out.c1
        gi_wp2
        refine ⟨trivial, (HPa.out _ HVv.out _ HF.out).mono ?_⟩
        rintro e w9 ⟨v, rfl, hp, hb⟩
        replace HF := Lib.hid (HF.out.keep hb)
        replace HD := Lib.hid (HD.out.keep hb)
        replace HB := Lib.hid (bel_tr HB.out hb)
        clear hb HPa c0 c1
        rcases hq : pathQ l d with _ | p
        · rw [hq] at hp
          obtain rfl : v = .slice none 0 0 := hp
          have HE2 : Hid (R = ([], 9)) := by show _ = _; rw [HE4.out, hq]
          clear hq HE4
          have hcmp := sl_nil
          gi_wp2
          refine retM (v := .tuple #[.slice none 0 0, .int .i64 9]) (by simp [results, Tryz.results22, go_sem]) rfl ?_
          exact ⟨_, by rw [HE2.out], by rw [HE2.out]; exact OD.nil _ _ _, HB.out⟩
        · rw [hq] at hp
          have hp2 : OD w9 w4.heap.size ED v p ∨ True := .inr trivial
          have HPt : Hid (Pt l d p) := by
            show Pt _ _ _
            unfold pathQ at hq
            rw [if_neg (by rw [HRr.out]; decide)] at hq
            exact pt_iff.2 hq
          have HE2 : Hid (R = ((Bw l d).map (·.1), 0)) := by show _ = _; rw [HE4.out, hq]; rfl
          obtain ⟨aa, cc, rfl, -, hnn, -, hxx⟩ := OD.row hp
          have haa : ∃ g, aa = some ⟨g, 0, none⟩ := by
            rcases aa with _ | x
            · exfalso
              have h8 := (hnn rfl).2
              rcases pt_inv HPt.out with ⟨h9, -⟩ | ⟨-, y, q, -, -, h9⟩
              · rw [HRr.out] at h9; cases h9
              · rw [h8] at h9; simp at h9
            · exact ⟨x.block, by rw [(hxx x rfl).1]⟩
          obtain ⟨g0, rfl⟩ := haa
          clear hp hp2 hq HE4 hnn hxx
          have hcmp := sl_some g0 p.length cc
          have HG := Lib.hid (bx_new w9 (.slice none 0 0) TD)
          have hbx := bel_box w9 (.cells #[.slice none 0 0] TD)
          have HGw : Hid (w.heap.size ≤ w9.heap.size) := HB.out.size
          replace HB := Lib.hid (bel_tr HB.out hbx)
          replace HD := Lib.hid (HD.out.keep hbx)
          replace HF := Lib.hid (HF.out.keep hbx)
          clear hbx
          have c0 := HD.out.c0
          have c1 := HD.out.c1
          gi_wp2
          generalize w9.heap.size = G at *
          generalize w9.alloc (.cells #[.slice none 0 0] TD) = w10 at *
          refine ⟨trivial, (HAl.out _ _ HF.out).mono ?_⟩
          rintro e w11 ⟨b1, b2, rfl, hq, hb⟩
          have HQ := Lib.hid hq
          replace HG := Lib.hid (HG.out.keep hb)
          replace HB := Lib.hid (bel_tr HB.out hb)
          have HSQ := Lib.hid (below_seq l HVv.out hlx m d p HPt.out hfd w11 b1 b2)
          have HBs : Hid (w.heap.size ≤ w11.heap.size ∧ b2 < w11.heap.size) := ⟨HB.out.size, hq.2.2.lt⟩
          have HLn : Hid ((BD l d 0).length ≤ l.length) := by show _ ≤ _; rw [bd_len]; exact bw_len HVv.out HPt.out
          clear hq hb HAl HF HD c0 c1
          gi_wp2
          refine range_own (by decide) rfl enters_below rfl (BD l d 0) (Qb m b1 b2 d l) HSQ.out (fun _ => rfl) (fun pre A => Cj w w11.heap.size G TD ED 2 (pre.map (·.2.1)).length (cellsD (pre.map (·.2.1))) A ∧ Qb m b1 b2 d l A) (fun c A => False)
            (fun pre => (Cj.abF HB.out.size (by decide) (by decide)).and (Qb.abF (Fo.lt HQ.out.1))) (fun c => AbF.const _) (fun pre A h => h.2) (fun c A h => h.elim) ⟨⟨HB.out, _, HG.out, OD.nil _ _ _⟩, HQ.out⟩ ?a1 (fun x A => A.alloc (.cells (nc x.2) 35)) (fun x b W => Nb W b x.2) (fun x W => ⟨bel_box _ _, Nb.new W x.2⟩) (fun x b A A' row => nb_row x.2 b A A' row) ?assign ?body ?done ?stop
          case assign =>
            intro l' y A K g hg hK
            gi_wp2
            rw [← hg]
            exact hK
          case body =>
            rintro l' pre y b A ⟨⟨h1, v1, h2, h3⟩, h4⟩ ⟨k0, k1, k2, k3, k4, k5⟩ hbl hpre
            have hpl := hpre.length_le
            rw [List.length_append] at hpl
            obtain ⟨m1, hm1⟩ : ∃ m1, m1 = pre.map (·.2.1) := ⟨_, rfl⟩
            obtain ⟨m2, hm2⟩ : ∃ m2, m2 = m1 ++ [y.2.1] := ⟨_, rfl⟩
            have hm3 : (pre ++ [y]).map (·.2.1) = m2 := by rw [hm2, hm1]; simp
            rw [← hm1] at h3
            rw [hm3]
            have hml : m1.length ≤ 400000 := by have := HLn.out; rw [hm1, List.length_map]; simp at hpl; omega
            have H3 : Hid (OD A w11.heap.size ED v1 m1) := h3
            obtain ⟨a1, cc1, rfl, -, -, -, -⟩ := H3.out.row
            have c0 := h2.cell
            have H1 := Lib.hid h1
            have H2 := Lib.hid h2
            have H4 := Lib.hid h4
            have HM := Lib.hid hm2
            have HML := Lib.hid hml
            have hAs : w11.heap.size ≤ A.heap.size := by have := lt_of_cell k0; simp only at this; omega
            clear h1 h2 h3 h4 hpl hpre hm1 hm2 hm3 hml
            gi_wp2_with (
              gi_at_builtin
              refine wpListIn_appD rfl _ _ _ rfl Tryz.underlying25 infoD _ _ rfl (H3.out.below (bel_box _ _)) (some ⟨A.heap.size, 0, none⟩) [y.2.1] 1 1 rfl rfl (RowD.lit A [y.2.1] _ _ _ rfl) (fun h => by cases h) (by have := HML.out; simp only [List.length_cons, List.length_nil]; omega) (by simp; omega) ?_
              intro v5 W5 ho5 hg5 hgr
              rw [← HM.out] at ho5
              obtain ⟨g1, g2, g3⟩ := Cj.step (ks := [EA]) (C := w11.heap.size) H1.out HBs.out.1 HGw.out H2.out H3.out (by decide) (by decide) (by decide) hg5 ho5
              have g4 := Qb.step (v2 := v5) H4.out H2.out H3.out (by decide) (by decide) ⟨by decide, .inr HBs.out.2, by decide, by decide⟩ hg5
              obtain ⟨a5, c5, rfl, -, -, -, -⟩ := OD.row ho5
              have G1 := Lib.hid g1
              have G2 := Lib.hid g2
              have G4 := Lib.hid g4
              have c3 := g3.cell
              have f3 := g3.free
              clear g1 g2 g3 g4 c0 ho5 hg5 hgr H1 H2 H3 H4)
            exact ⟨G2.out, G1.out, G4.out⟩
          case stop =>
            rintro D c A hD ⟨⟩ hK
          case done =>
            rintro D A hD ⟨⟨h1, v1, h2, h3⟩, h4⟩ hK
            have e9 : (BD l d 0).map (·.2.1) = (Bw l d).map (·.1) := by rw [← bd_snd l d 0, List.map_map]; rfl
            rw [e9] at h3
            have H3 : Hid (OD A w11.heap.size ED v1 ((Bw l d).map (·.1))) := h3
            have c0 := h2.cell
            have H1 := Lib.hid h1
            have HK := Lib.hid hK
            clear h1 h2 h3 h4 hK e9
            gi_wp2
            refine retM1 (v := .tuple #[v1, .int .i64 0]) rfl HK.out (by simp [results, Tryz.results22, go_sem]) ?_
            have hDw : w.heap.size ≤ D := Nat.le_trans HB.out.size hD
            exact ⟨v1, by rw [HE2.out], by rw [HE2.out]; exact OD.mono ((own_abF (tys := []) (B := 0) (by simp)).put _ H3.out (Nat.zero_le _) HK.out rfl) fun k hk => Nat.le_trans HBs.out.1 (H3.out.lt k hk).1, (below_abF (tys := []) (Nat.le_refl _)).put _ H1.out hDw HK.out rfl⟩
      · have HE2 : Hid (R = ((Bw l d).map (·.1), 0)) := by show _ = _; rw [HE3.out]; unfold belowQ; rw [if_pos hr]; rfl
        have HPt : Hid (Pt l d []) := pt_root hr
        clear hr HE3
        gi_wp2
        refine ⟨trivial, ?_⟩
        have HG := Lib.hid (bx_new w5 (.slice none 0 0) TD)
        have hbx := bel_box w5 (.cells #[.slice none 0 0] TD)
        have HGw : Hid (w.heap.size ≤ w5.heap.size) := HB.out.size
        replace HB := Lib.hid (bel_tr HB.out hbx)
        replace HD := Lib.hid (HD.out.keep hbx)
        replace HF := Lib.hid (HF.out.keep hbx)
        clear hbx
        have c0 := HD.out.c0
        have c1 := HD.out.c1
        gi_wp2
        generalize w5.heap.size = G at *
        generalize w5.alloc (.cells #[.slice none 0 0] TD) = w6 at *
        refine ⟨trivial, (HAl.out _ _ HF.out).mono ?_⟩
        rintro e w7 ⟨b1, b2, rfl, hq, hb⟩
        have HQ := Lib.hid hq
        replace HG := Lib.hid (HG.out.keep hb)
        replace HB := Lib.hid (bel_tr HB.out hb)
        have HSQ := Lib.hid (below_seq l HVv.out hlx m d [] HPt.out hfd w7 b1 b2)
        have HBs : Hid (w.heap.size ≤ w7.heap.size ∧ b2 < w7.heap.size) := ⟨HB.out.size, hq.2.2.lt⟩
        have HLn : Hid ((BD l d 0).length ≤ l.length) := by show _ ≤ _; rw [bd_len]; exact bw_len HVv.out HPt.out
        clear hq hb HAl HF HD c0 c1
        gi_wp2
        refine range_own (by decide) rfl enters_below rfl (BD l d 0) (Qb m b1 b2 d l) HSQ.out (fun _ => rfl) (fun pre A => Cj w w7.heap.size G TD ED 2 (pre.map (·.2.1)).length (cellsD (pre.map (·.2.1))) A ∧ Qb m b1 b2 d l A) (fun c A => False)
          (fun pre => (Cj.abF HB.out.size (by decide) (by decide)).and (Qb.abF (Fo.lt HQ.out.1))) (fun c => AbF.const _) (fun pre A h => h.2) (fun c A h => h.elim) ⟨⟨HB.out, _, HG.out, OD.nil _ _ _⟩, HQ.out⟩ ?a2 (fun x A => A.alloc (.cells (nc x.2) 35)) (fun x b W => Nb W b x.2) (fun x W => ⟨bel_box _ _, Nb.new W x.2⟩) (fun x b A A' row => nb_row x.2 b A A' row) ?assign ?body ?done ?stop
        case assign =>
          intro l' y A K g hg hK
          gi_wp2
          rw [← hg]
          exact hK
        case body =>
          rintro l' pre y b A ⟨⟨h1, v1, h2, h3⟩, h4⟩ ⟨k0, k1, k2, k3, k4, k5⟩ hbl hpre
          have hpl := hpre.length_le
          rw [List.length_append] at hpl
          obtain ⟨m1, hm1⟩ : ∃ m1, m1 = pre.map (·.2.1) := ⟨_, rfl⟩
          obtain ⟨m2, hm2⟩ : ∃ m2, m2 = m1 ++ [y.2.1] := ⟨_, rfl⟩
          have hm3 : (pre ++ [y]).map (·.2.1) = m2 := by rw [hm2, hm1]; simp
          rw [← hm1] at h3
          rw [hm3]
          have hml : m1.length ≤ 400000 := by have := HLn.out; rw [hm1, List.length_map]; simp at hpl; omega
          have H3 : Hid (OD A w7.heap.size ED v1 m1) := h3
          obtain ⟨a1, cc1, rfl, -, -, -, -⟩ := H3.out.row
          have c0 := h2.cell
          have H1 := Lib.hid h1
          have H2 := Lib.hid h2
          have H4 := Lib.hid h4
          have HM := Lib.hid hm2
          have HML := Lib.hid hml
          have hAs : w7.heap.size ≤ A.heap.size := by have := lt_of_cell k0; simp only at this; omega
          clear h1 h2 h3 h4 hpl hpre hm1 hm2 hm3 hml
          gi_wp2_with (
            gi_at_builtin
            refine wpListIn_appD rfl _ _ _ rfl Tryz.underlying25 infoD _ _ rfl (H3.out.below (bel_box _ _)) (some ⟨A.heap.size, 0, none⟩) [y.2.1] 1 1 rfl rfl (RowD.lit A [y.2.1] _ _ _ rfl) (fun h => by cases h) (by have := HML.out; simp only [List.length_cons, List.length_nil]; omega) (by simp; omega) ?_
            intro v5 W5 ho5 hg5 hgr
            rw [← HM.out] at ho5
            obtain ⟨g1, g2, g3⟩ := Cj.step (ks := [EA]) (C := w7.heap.size) H1.out HBs.out.1 HGw.out H2.out H3.out (by decide) (by decide) (by decide) hg5 ho5
            have g4 := Qb.step (v2 := v5) H4.out H2.out H3.out (by decide) (by decide) ⟨by decide, .inr HBs.out.2, by decide, by decide⟩ hg5
            obtain ⟨a5, c5, rfl, -, -, -, -⟩ := OD.row ho5
            have G1 := Lib.hid g1
            have G2 := Lib.hid g2
            have G4 := Lib.hid g4
            have c3 := g3.cell
            have f3 := g3.free
            clear g1 g2 g3 g4 c0 ho5 hg5 hgr H1 H2 H3 H4)
          exact ⟨G2.out, G1.out, G4.out⟩
        case stop =>
          rintro D c A hD ⟨⟩ hK
        case done =>
          rintro D A hD ⟨⟨h1, v1, h2, h3⟩, h4⟩ hK
          have e9 : (BD l d 0).map (·.2.1) = (Bw l d).map (·.1) := by rw [← bd_snd l d 0, List.map_map]; rfl
          rw [e9] at h3
          have H3 : Hid (OD A w7.heap.size ED v1 ((Bw l d).map (·.1))) := h3
          have c0 := h2.cell
          have H1 := Lib.hid h1
          have HK := Lib.hid hK
          clear h1 h2 h3 h4 hK e9
          gi_wp2
          refine retM1 (v := .tuple #[v1, .int .i64 0]) rfl HK.out (by simp [results, Tryz.results22, go_sem]) ?_
          have hDw : w.heap.size ≤ D := Nat.le_trans HB.out.size hD
          exact ⟨v1, by rw [HE2.out], by rw [HE2.out]; exact OD.mono ((own_abF (tys := []) (B := 0) (by simp)).put _ H3.out (Nat.zero_le _) HK.out rfl) fun k hk => Nat.le_trans HBs.out.1 (H3.out.lt k hk).1, (below_abF (tys := []) (Nat.le_refl _)).put _ H1.out hDw HK.out rfl⟩
end Go.Proofs.YtodjccfaipkpfaaGreatDoor.Un
end

/-
  Path, Lost and All of the program.
-/
section
namespace Go.Proofs.YtodjccfaipkpfaaGreatDoor.Un
set_option linter.unusedVariables false
open Go.RowKit V Go.Shelf D Nd Qs Wk
attribute [local irreducible] Sch.heldN Sch.stepV Sch.stepE

def pR (o : Option (List Dt)) : List Dt × Int := match o with | none => ([], 9) | some p => (p, 0)
def pathP (l : List Nt) (d : Dt) : List Dt × Int := if (validS l && validR d) = true then pR (pathQ l d) else ([], 2)
def lostP (l : List Nt) : List Dt × Int := if validS l = true then (lostS l, 0) else ([], 2)
theorem root_valid (l : List Nt) : belowP l (0, 0) = if validS l = true then ((orderS l).map (·.1), 0) else ([], 2) := by
  unfold belowP belowQ
  rw [show rootR (0, 0) = true from rfl]
  cases validS l <;> rfl
theorem lost_minus {l : List Nt} (hv : validS l = true) : minusR (l.map (·.1)) ((orderS l).map (·.1)) = lostS l := by
  have hs := (validS_iff.1 hv).2
  refine (minus_eq (lost_fold l l [] srt_nil).1 fun d => ?_).symm
  rw [show List.foldl (lostF l) [] l = lostS l from rfl, mem_lost hs, List.mem_map, List.mem_map]
  constructor
  · rintro ⟨n, h1, h2, rfl⟩
    refine ⟨⟨n, h1, rfl⟩, ?_⟩
    rintro ⟨x, hx, e⟩
    obtain ⟨-, p, hp⟩ := (order_mem hv).1 hx
    rw [e] at hp
    exact h2 ⟨p, hp⟩
  · rintro ⟨⟨n, h1, rfl⟩, h2⟩
    exact ⟨n, h1, fun h => h2 ⟨n, (order_mem hv).2 ⟨h1, h⟩, rfl⟩, rfl⟩
theorem take_dots {l : List Nt} {k : Nat} (h : k < l.length) : (l.take (k + 1)).map (·.1) = (l.take k).map (·.1) ++ [l[k].1] := by
  rw [List.take_succ_eq_append_getElem h, List.map_append]
  rfl
theorem make_cap_d (c : Nat) (hc : c ≤ 1000000) (w : World) :
    ∃ w', (Instr.makeSlice 25 (.int .i64 0) (.int .i64 (c : Int))).run Tryz.prog w = .ok (.slice (some ⟨w.heap.size, 0, none⟩) 0 c) w' ∧ OD w' w.heap.size ED (.slice (some ⟨w.heap.size, 0, none⟩) 0 c) [] ∧ Below w.heap.size w w' := by
  obtain ⟨i, hi, hz0, hz1, hz2⟩ := G.info_of infoD
  obtain ⟨w', h1, h2, h3⟩ := run_make_own (P := Tryz.prog) w w.heap.size 25 33 i (.agg #[.int .i64 0, .int .i64 0]) 2 Tryz.underlying25 hi hz0 hz1 .i64 .i64 c (by rw [hz2]; omega) (by unfold maxLen; omega) (Nat.le_refl _)
  exact ⟨w', h1, h2, (Below.refl _ _).grown h3 (Nat.le_refl _) (fun k hk => by cases hk)⟩
set_option maxRecDepth 100000 in
set_option maxHeartbeats 4000000 in
theorem lost_prog (l : List Nt) (a : Option Addr) (c : Nat) (w : World) (hx : RowN w a l) (hlx : l.length ≤ 400000) :
    Calls Tryz.prog 7 #[.slice a l.length c] w fun e w' => ∃ v, e = .returned (.tuple #[v, .int .i64 (lostP l).2]) ∧ (∃ a' c', v = .slice a' (lostP l).1.length c' ∧ RowD w' a' (lostP l).1) ∧ Below w.heap.size w w' := by
  have HBl := Lib.hid (below_prog l (0, 0) a c w hx hlx)
  rw [root_valid] at HBl
  obtain ⟨B, hB⟩ : ∃ B : List Dt × Int, B = if validS l = true then ((orderS l).map (·.1), 0) else ([], 2) := ⟨_, rfl⟩
  rw [← hB] at HBl
  have HBe := Lib.hid hB
  clear hB
  have HX := Lib.hid hx
  have hli : (l.length : Int) ≤ 400000 := by omega
  have HL := Lib.hid hlx
  have HE : Hid (lostP l = if validS l = true then (lostS l, 0) else ([], 2)) := rfl
  have HOl : Hid (validS l = true → (orderS l).length ≤ l.length) := fun hv => bw_len hv (root_path l)
  clear hx
  generalize lostP l = R at *
  go_enter Tryz.func7, Tryz.ntmps7
  go_wp2_with fail
  refine HBl.out.mono ?_
  rintro e w2 ⟨v, rfl, ho, hb⟩
  have HB := Lib.hid hb
  have HS2 := Lib.hid hb.size
  rcases hv : validS l with _ | _
  · have HE2 : Hid (R = ([], 2)) := by show _ = _; rw [HE.out, hv]; rfl
    obtain rfl : B = ([], 2) := by rw [HBe.out, hv]; rfl
    clear hv hb ho HBl HBe
    go_wp2_with fail
    go_ret2
    exact ⟨.slice none 0 0, by rw [HE2.out]; rfl, ⟨none, 0, by rw [HE2.out]; rfl, by rw [HE2.out]; exact .inl rfl⟩, HB.out⟩
  · have HE2 : Hid (R = (lostS l, 0)) := by show _ = _; rw [HE.out, hv]; rfl
    have HVv := Lib.hid hv
    obtain ⟨m1, hm1⟩ : ∃ m1, m1 = (orderS l).map (·.1) := ⟨_, rfl⟩
    obtain rfl : B = (m1, 0) := by rw [HBe.out, hv, hm1]; rfl
    clear HBe
    obtain ⟨a1, c1, rfl, hr1, -, -, -⟩ := OD.row ho
    have HR1 := Lib.hid hr1
    have HRl : Hid (∀ b o, a1 = some ⟨b, o, none⟩ → b < w2.heap.size) := fun b o e => (ho.lt b (by rw [e]; rfl)).2
    have HM1 := Lib.hid hm1
    have HML : Hid (m1.length ≤ 400000) := by show _ ≤ _; rw [hm1, List.length_map]; have := HOl.out hv; omega
    clear hv hb ho HBl hr1 hm1 HOl HE
    obtain ⟨w3, hmk, ho3, hb3⟩ := make_cap_d l.length (by omega) w2
    replace HB := Lib.hid (bel_tr HB.out hb3)
    replace HR1 := Lib.hid (HR1.out.keep hb3)
    have HO3 : Hid (OD w3 w2.heap.size ED (.slice (some ⟨w2.heap.size, 0, none⟩) 0 l.length) ((l.take 0).map (·.1))) := ho3
    have HS := Lib.hid hb3.size
    clear ho3 hb3
    go_wp2_with fail
    have hbase : w.heap.size ≤ w2.heap.size := HS2.out
    go_loopw [6, 8, 23] (fun v _ i wr => ∃ k : Nat, k ≤ l.length ∧ i = .int .i64 (k : Int) ∧ Hid (Below w.heap.size w wr) ∧ Hid (w2.heap.size ≤ wr.heap.size) ∧ Hid (RowD wr a1 m1) ∧ Hid (OD wr w2.heap.size ED v ((l.take k).map (·.1)))) (fun _ _ i _ => l.length - (intOf i).toNat)
    case atStart => exact ⟨0, Nat.zero_le _, rfl, HB, HS, HR1, HO3⟩
    case round =>
      obtain ⟨k, hk, rfl, hh, HS, HR1, HO⟩ := hrel
      by_cases hlt : k < l.length
      · have hi0 : (k : Int) < (l.length : Int) := by omega
        obtain ⟨b1, o1, rfl, hna⟩ := na_of (HX.out.keep hh.out) k hlt
        have HSt := Lib.hid (take_dots hlt)
        obtain ⟨q, hq⟩ : ∃ q, q = l[k] := ⟨_, rfl⟩
        rw [← hq] at hna HSt
        clear hq
        have hb0 := bel_box wr (.cells (nc q) 35)
        have HB1 := bel_tr hh.out hb0
        have HO1 := Lib.hid (HO.out.below hb0)
        have HR2 := Lib.hid (HR1.out.keep hb0)
        have HS1 := Lib.hid (Nat.le_trans HS.out hb0.size)
        have HPk : Hid (((l.take k).map (·.1)).length ≤ 400000) := by
          have h2 := HL.out
          show _ ≤ _
          rw [List.length_map, List.length_take]
          omega
        clear hb0
        obtain ⟨n0, n1, n2, n3, n4, n5⟩ := hna
        obtain ⟨⟨q1, q2⟩, ⟨q3, q4⟩, q5, q6⟩ := q
        have hb2 := bel_box (wr.alloc (.cells (nc ((q1, q2), (q3, q4), q5, q6)) 35)) (.cells #[.int .i64 q1, .int .i64 q2] 33)
        have HO2 := Lib.hid (HO1.out.below hb2)
        have HB2 := bel_tr HB1 hb2
        have HR3 := Lib.hid (HR2.out.keep hb2)
        have HS2' := Lib.hid (Nat.le_trans HS1.out hb2.size)
        have hsz : (wr.alloc (.cells (nc ((q1, q2), (q3, q4), q5, q6)) 35)).heap.size = wr.heap.size + 1 := by simp
        have HLt : Hid (RowD ((wr.alloc (.cells (nc ((q1, q2), (q3, q4), q5, q6)) 35)).alloc (.cells #[.int .i64 q1, .int .i64 q2] 33)) (some ⟨wr.heap.size + 1, 0, none⟩) [(q1, q2)]) := by rw [← hsz]; exact RowD.lit _ [(q1, q2)] _ _ _ rfl
        clear hb2 hsz
        go_wp2_with (at_builtin; refine wpList_appD rfl _ _ _ rfl Tryz.underlying25 infoD _ _ rfl HO2.out (some ⟨wr.heap.size + 1, 0, none⟩) [(q1, q2)] 1 rfl HLt.out (fun h => by cases h) (by have := HPk.out; simp only [List.length_cons, List.length_nil]; omega) HS2'.out ?_)
        intro v7 w7 ho hg _
        have HO7 : Hid (OD w7 w2.heap.size ED v7 ((l.take (k + 1)).map (·.1))) := by show OD _ _ _ _ _; rw [HSt.out, List.map_take]; exact ho
        have HB7 := Lib.hid (HB2.grown hg HB2.size (fun x hx => Nat.le_trans hbase (HO2.out.lt x hx).1))
        have HS7 := Lib.hid (Nat.le_trans HS2'.out hg.size)
        have HR7 : Hid (RowD w7 a1 m1) := HR3.out.gb hg (fun b o hx e => by
          have h1 := (HO2.out.lt _ e.symm).1
          have h2 := HRl.out b o hx
          omega)
        clear ho hg n0 n1 n2 n3 n4 n5
        go_wp2_with fail
        go_roundw
        case rel => exact ⟨k + 1, by omega, by go_num, HB7, HS7, HR7, HO7⟩
        case measure => simp [intOf]; omega
      · obtain rfl : k = l.length := by omega
        have hend : ¬ (l.length : Int) < (l.length : Int) := by omega
        rw [List.take_length] at HO
        obtain ⟨A, cv, rfl, hr, -⟩ := HO.out.row
        have HM2 := Lib.hid (minus_any _ m1 A a1 cv c1 wr hr HR1.out (by rw [List.length_map]; have := HL.out; omega) (by have := HML.out; omega))
        have hmi : minusR (l.map (·.1)) m1 = lostS l := by rw [HM1.out]; exact lost_minus HVv.out
        rw [hmi] at HM2
        clear hmi
        clear hr
        rw [List.length_map] at HM2 ⊢
        generalize lostS l = M at *
        clear HVv HM1 HML HRl HX HL
        have hE2 := HE2.out
        subst hE2
        go_wp2_with fail
        refine HM2.out.mono ?_
        rintro e w9 ⟨v9, rfl, hs, hb⟩
        obtain ⟨a9, c9, rfl, -, hr9⟩ := hs.row
        have HR9 := Lib.hid hr9
        have HB9 := Lib.hid (bel_tr hh.out hb)
        clear hs hb hr9 HM2
        go_wp2_with fail
        go_ret2
        exact ⟨.slice a9 M.length c9, rfl, ⟨a9, ⟨c9, rfl⟩, HR9.out⟩, HB9.out⟩
end Go.Proofs.YtodjccfaipkpfaaGreatDoor.Un
end

/-
  All of the program.
-/
section
namespace Go.Proofs.YtodjccfaipkpfaaGreatDoor.Un
set_option linter.unusedVariables false
open Go.RowKit V Go.Shelf D Nd Qs Wk
attribute [local irreducible] Sch.heldN Sch.stepV Sch.stepE

def seenL (l : List Nt) : List Nt := if validS l = true then l else []
theorem ib_tr {w w1 : World} {m : Nat} {l : List Nt} {d : Dt} {e : Ending} {w' : World} (hb : Below w.heap.size w w1) (h : Ib w1 m l d e w') : Ib w m l d e w' := by
  obtain ⟨b1, b2, rfl, hq, h2⟩ := h
  exact ⟨b1, b2, rfl, hq, bel_tr hb h2⟩
end Go.Proofs.YtodjccfaipkpfaaGreatDoor.Un
end
