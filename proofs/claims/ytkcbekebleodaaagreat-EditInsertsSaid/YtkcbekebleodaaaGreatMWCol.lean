/-
  Ranges that collect: a box with a row of the call's own; the tree's iterators, below and all.
-/
import Derived.Test.YtkcbekebleodaaaGreatWBel
import Derived.Test.YtkcbekebleodaaaGreatMDSet
import Derived.Test.YtkcbekebleodaaaGreatMJnC
import Derived.Test.YtkcbekebleodaaaGreatMEdA
import Derived.Test.YtkcbekebleodaaaGreatMNPure
import Derived.Test.YtkcbekebleodaaaGreatRName
import Derived.Test.YtkcbekebleodaaaGreatMQAsk
import Derived.Test.YtkcbekebleodaaaGreatMQAdd

section
namespace Go.Proofs.YtkcbekebleodaaaGreat.Un
set_option linter.unusedVariables false
open Go.RowKit V Go.Shelf D Nd Qs Wk
attribute [local go_sem] Oper.semAt_some

/-- What has been collected so far: all that was is as it was; the box G has a row of the call's own. -/
def Cj (w : World) (base G : Nat) (tS E : TypeId) (size n : Nat) (xs : List Value) (A : World) : Prop := Below w.heap.size w A ∧ ∃ v, Bx A G v tS ∧ A.ownsRow base E size v n xs
theorem Cj.abF {tys : List TypeId} {w : World} {base G B size n : Nat} {tS E : TypeId} {xs : List Value} (hB : w.heap.size ≤ B) (h1 : tS ∉ tys) (h2 : E ∉ tys) : AbF tys B (Cj w base G tS E size n xs) := fun A A' row ha hg hr => by
  obtain ⟨h3, v, h4, h5⟩ := ha
  exact ⟨below_abF hB A A' row h3 hg hr, v, Bx.abF h1 A A' row h4 hg hr, own_abF h2 A A' row h5 hg hr⟩
theorem Qb.keep {w w' : World} {m b1 b2 : Nat} {d : Dt} {l : List Nt} (h : Qb m b1 b2 d l w) (hb : Below w.heap.size w w') : Qb m b1 b2 d l w' := ⟨h.1.keep hb, h.2.1.keep hb, h.2.2.keep hb⟩
theorem Fo.obj {w : World} {m : Nat} {l : List Nt} (h : Fo w m l) : ∃ es c, w.heap[m]? = some (.map es c) := by
  obtain ⟨f, ⟨D, ⟨es, clock, hb, -⟩, -⟩, -⟩ := h
  exact ⟨es, clock, hb⟩
theorem Qb.turn {A A' : World} {m b1 b2 : Nat} {d : Dt} {l : List Nt} {row : Option Nat} (h : Qb m b1 b2 d l A) (hg : A.grownBy A' row) (hr : ∀ r, row = some r → r ≠ b1 ∧ r ≠ b2 ∧ ∃ vs t fr, A.heap[r]? = some (.cells vs t fr) ∧ t ≠ 148 ∧ t ≠ 156) : Qb m b1 b2 d l A' := by
  refine ⟨h.1.turn hg (fun e => ?_) fun r e => ?_, h.2.1.gb hg fun e => (hr b1 e.symm).1 rfl, (hg.block b2 h.2.2.lt fun e => (hr b2 e.symm).2.1 rfl).trans h.2.2⟩
  · obtain ⟨-, -, vs, t, fr, k1, -⟩ := hr m e
    obtain ⟨es, c, k2⟩ := h.1.obj
    rw [k1] at k2
    cases k2
  · obtain ⟨-, -, vs, t, fr, k1, k2, k3⟩ := hr r e
    exact ⟨_, k1, fun vs' t' fr' e2 => by cases e2; exact ⟨k2, k3⟩⟩
theorem Qb.abF {m b1 b2 B : Nat} {d : Dt} {l : List Nt} (hm : m < B) : AbF [EA] B (Qb m b1 b2 d l) := fun A A' row ha hg hr => ⟨Fo.abF hm (by decide) (by decide) A A' row ha.1 hg hr, Bx.abF (by decide) A A' row ha.2.1 hg hr, Bd.abF (by decide) A A' row ha.2.2 hg hr⟩
theorem row_ne {A : World} {base size n b : Nat} {v u : Value} {E t : TypeId} {xs : List Value} (h : A.ownsRow base E size v n xs) (hb : Bx A b u t) (ht : t ≠ E) : some b ≠ v.ownBlock := fun e => by
  rcases h.2 with ⟨rfl, -⟩ | ⟨g, cap, cur, rfl, hbb, hgg, -⟩
  · cases e
  · have e2 : b = g := Option.some.inj e
    subst e2
    unfold Bx at hb
    rw [hgg] at hb
    cases hb
    exact ht rfl
theorem row_below {A A' : World} {base size n : Nat} {v : Value} {E : TypeId} {xs : List Value} (h : A.ownsRow base E size v n xs) (hb : Below A.heap.size A A') : A'.ownsRow base E size v n xs := World.ownsRow.kept h (gb_below hb none) (by rcases v.ownBlock with _ | x <;> simp)
/-- One element more has been laid. -/
theorem Cj.step {ks : List TypeId} {w A A2 : World} {base G C size n n2 : Nat} {tS E : TypeId} {xs xs2 : List Value} {v v2 : Value} {o : Obj} (hw : Below w.heap.size w A) (hwb : w.heap.size ≤ base) (hG : w.heap.size ≤ G) (hb : Bx A G v tS) (ho : A.ownsRow base E size v n xs) (hE : E ∉ ks) (hT : tS ∉ ks) (hne : tS ≠ E)
    (hg : (A.alloc o).grownBy A2 v.ownBlock) (ho2 : A2.ownsRow base E size v2 n2 xs2) :
    Cj w base G tS E size n2 xs2 (A2.setCell ⟨G, 0, none⟩ v2) ∧ Kp ks C A (A2.setCell ⟨G, 0, none⟩ v2) ∧ Bx A2 G v tS := by
  have hba := bel_box A o
  have h1 := hb.keep hba
  have h2 := row_below ho hba
  have hx : Bx A2 G v tS := h1.gb hg (row_ne h2 h1 hne)
  have hs := gb_setCell A2 G 0 v2
  have hn2 := row_ne ho2 hx hne
  refine ⟨⟨?_, v2, hx.set v2, World.ownsRow.kept ho2 hs ?_⟩, ((Kp.bel hba).trans (Kp.own h2 hE hg)).trans (Kp.gb hs hx hT), hx⟩
  · refine bel_low (bel_low (bel_tr hw hba) hg fun x e => Nat.le_trans hwb (World.ownsRow.lt ho x e).1) hs fun x e => ?_
    cases e
    exact hG
  · rcases hv : v2.ownBlock with _ | y
    · exact .inl rfl
    · rw [hv] at hn2; exact .inr fun e => hn2 e.symm
/-- As Cj.step: what the iterator needs stays. -/
theorem Qb.step {A A2 : World} {base G size n : Nat} {tS E : TypeId} {xs : List Value} {v v2 : Value} {o : Obj} {m b1 b2 : Nat} {d : Dt} {l : List Nt} (h : Qb m b1 b2 d l A) (hb : Bx A G v tS) (ho : A.ownsRow base E size v n xs) (hne : tS ≠ E)
    (hS : tS ≠ TT ∧ tS ≠ 25 ∧ tS ≠ 148 ∧ tS ≠ 156) (hE : E ≠ TT ∧ (E ≠ 25 ∨ b2 < base) ∧ E ≠ 148 ∧ E ≠ 156)
    (hg : (A.alloc o).grownBy A2 v.ownBlock) : Qb m b1 b2 d l (A2.setCell ⟨G, 0, none⟩ v2) := by
  have hba := bel_box A o
  have h1 := hb.keep hba
  have h2 := row_below ho hba
  have hx : Bx A2 G v tS := h1.gb hg (row_ne h2 h1 hne)
  have q1 := h.keep hba
  have q2 : Qb m b1 b2 d l A2 := q1.turn hg fun r e => by
    rcases h2.2 with ⟨rfl, -⟩ | ⟨g, cap, cur, rfl, hbb, hgg, -⟩
    · cases e
    · have e2 : g = r := Option.some.inj e
      subst e2
      refine ⟨?_, ?_, _, _, _, hgg, hE.2.2.1, hE.2.2.2⟩
      · rintro rfl
        have := q1.2.1
        unfold Bx at this
        rw [hgg] at this
        cases this
        exact hE.1 rfl
      · rintro rfl
        rcases hE.2.1 with k | k
        · have := q1.2.2
          unfold Bd at this
          rw [hgg] at this
          cases this
          exact k rfl
        · omega
  refine q2.turn (gb_setCell A2 G 0 v2) fun r e => ?_
  cases e
  refine ⟨?_, ?_, _, _, _, hx, hS.2.2.1, hS.2.2.2⟩
  · rintro rfl
    have := q2.2.1
    unfold Bx at this hx
    rw [hx] at this
    cases this
    exact hS.1 rfl
  · rintro rfl
    have := q2.2.2
    unfold Bd at this
    unfold Bx at hx
    rw [hx] at this
    cases this
theorem wpListIn_appN {F : Fence} {n : Nat} {P : Program} {w : World} {ops : Array Oper} {rest : List Oper} {x : Oper} {a : Act} {Q : Exit → Act → World → Prop} (hgd : x.guard = none) (s y : Operand) (T : TypeId)
    (ho : x.op = .call { callee := .builtin .append, args := #[s, y], argTypes := #[T, T] })
    {base : Nat} {E : TypeId} (hT : P.underlying T = some (.slice E)) (hinfo : (P.info? E).map (fun i => (i.zero, i.size, i.bytes)) = some (some zeroNv, 6, 48))
    (v : Value) (l : List Nt) (hs : a.eval s = v) (h : ON w base E v l) (ad : Option Addr) (m : List Nt) (c n' : Nat) (hn : n' = m.length) (hx : a.eval y = .slice ad n' c) (hrow : RowN w ad m) (hnil : ad = none → c = 0)
    (hlen : l.length + m.length ≤ 1000000000000) (hbase : base ≤ w.heap.size)
    (hk : ∀ v' w', ON w' base E v' (l ++ m) → w.grownBy w' v.ownBlock → G.Grew w v v' → wpListIn F n P ops Q rest (a.put x.dst v') w') : wpListIn F n P ops Q (x :: rest) a w := by
  subst hn
  obtain ⟨v', w', hr, h2, h3, h4⟩ := run_appN hT hinfo h x.type ad m c hrow hnil hlen hbase
  refine wpListIn_plain hgd fun K hK => ?_
  unfold Oper.wpIn
  refine ⟨by simp [Oper.about, ho, resolve, Target.leads, Sem.run_pure], ?_⟩
  rw [Oper.semAt_plain F _ _ (by rw [ho]; intro c hc'; cases hc')]
  simp [execOp, ho, resolve, invoke, builtin, hs, hx, hr, Result.andThen]
  exact hK _ _ (hk v' w' h2 h3 h4)
theorem infoN : (Tryz.prog.info? 53).map (fun i => (i.zero, i.size, i.bytes)) = some (some zeroNv, 6, 48) := by kernel_rfl
theorem infoD : (Tryz.prog.info? 25).map (fun i => (i.zero, i.size, i.bytes)) = some (some (.agg #[.int .i64 0, .int .i64 0]), 2, 16) := by kernel_rfl

/-- An iterator over all below a dot. -/
def Ib (w : World) (m : Nat) (l : List Nt) (d : Dt) (e : Ending) (w' : World) : Prop :=
  ∃ b1 b2 : Nat, e = .returned (.func (.func 117) #[] #[.pointer (some ⟨b1, 0, none⟩), .pointer (some ⟨b2, 0, none⟩)]) ∧ Qb m b1 b2 d l w' ∧ Below w.heap.size w w'
theorem enters_below : ∀ args w, (callFunc 117 args).run Tryz.prog w = .ok (.enter 117 args) w := enters_of Tryz.func117 (by kernel_rfl) rfl
set_option maxRecDepth 100000 in
theorem tbelow_any (m : Nat) (l : List Nt) (d : Dt) (w : World) (h : Fo w m l) : Calls Tryz.prog 108 #[.map (some m), dv d] w fun e w' => Ib w m l d e w' := by
  have hmf : ∀ (fn : Fn) (first cap : Array Value) (w : World), (Instr.makeFunc fn first cap).run Tryz.prog w = .ok (.func fn first cap) w := fun _ _ _ _ => rfl
  have h1 : (w.alloc (.cells #[.map (some m)] 129)).heap.size = w.heap.size + 1 := by simp
  have k1 := bd_new (w.alloc (.cells #[.map (some m)] 129)) d
  rw [h1] at k1
  have hb : Below w.heap.size w ((w.alloc (.cells #[.map (some m)] 129)).alloc (.cells #[.int .i64 d.1, .int .i64 d.2] 25)) := (bel_box _ _).alloc (by simp) _
  have HQ : Hid (Qb m w.heap.size (w.heap.size + 1) d l ((w.alloc (.cells #[.map (some m)] 129)).alloc (.cells #[.int .i64 d.1, .int .i64 d.2] 25))) := ⟨h.keep hb, (bx_new w _ _).keep (bel_box _ _), k1⟩
  have HB := Lib.hid hb
  clear h h1 k1 hb
  go_enter Tryz.func108, Tryz.ntmps108
  go_wp2_with fail
  go_ret
  exact ⟨_, _, rfl, HQ.out, HB.out⟩
set_option maxRecDepth 100000 in
theorem tall_any (m : Nat) (l : List Nt) (w : World) (h : Fo w m l) : Calls Tryz.prog 98 #[.map (some m)] w fun e w' => Ib w m l (0, 0) e w' := by
  have HC := Lib.hid (tbelow_any m l (0, 0) w h)
  clear h
  go_enter Tryz.func98, Tryz.ntmps98
  go_wp2_with fail
  refine HC.out.mono ?_
  rintro e w2 ⟨b1, b2, rfl, hq, hb⟩
  have HQ := Lib.hid hq
  have HB := Lib.hid hb
  clear hq hb HC
  go_wp2_with fail
  go_ret
  exact ⟨_, _, rfl, HQ.out, HB.out⟩
end Go.Proofs.YtkcbekebleodaaaGreat.Un
end

/-
  Order of the program.
-/
section
namespace Go.Proofs.YtkcbekebleodaaaGreat.Un
set_option linter.unusedVariables false
open Go.RowKit V Go.Shelf D Nd Qs Wk
attribute [local go_sem] Oper.semAt_some

def orderP (l : List Nt) : List Nt × Int := if validS l = true then (orderS l, 0) else ([], 2)
abbrev TN : TypeId := 22
abbrev EN : TypeId := 53
theorem make_cap_n (c : Nat) (hc : c ≤ 1000000) (w : World) :
    ∃ w', (Instr.makeSlice 22 (.int .i64 0) (.int .i64 (c : Int))).run Tryz.prog w = .ok (.slice (some ⟨w.heap.size, 0, none⟩) 0 c) w' ∧ ON w' w.heap.size EN (.slice (some ⟨w.heap.size, 0, none⟩) 0 c) [] ∧ Below w.heap.size w w' := by
  obtain ⟨i, hi, hz0, hz1, hz2⟩ := G.info_of infoN
  obtain ⟨w', h1, h2, h3⟩ := run_make_own (P := Tryz.prog) w w.heap.size 22 53 i zeroNv 6 Tryz.underlying22 hi hz0 hz1 .i64 .i64 c (by rw [hz2]; omega) (by unfold maxLen; omega) (Nat.le_refl _)
  exact ⟨w', h1, h2, (Below.refl _ _).grown h3 (Nat.le_refl _) (fun k hk => by cases hk)⟩
set_option maxRecDepth 100000 in
set_option maxHeartbeats 4000000 in
theorem order_prog (l : List Nt) (a : Option Addr) (c : Nat) (w : World) (hx : RowN w a l) (hlx : l.length ≤ 400000) :
    Calls Tryz.prog 81 #[.slice a l.length c] w fun e w' => ∃ v, e = .returned (.tuple #[v, .int .i64 (orderP l).2]) ∧ ON w' w.heap.size EN v (orderP l).1 ∧ Below w.heap.size w w' := by
  have HV := Lib.hid (validS_any l a c w hx (by omega))
  have HX := Lib.hid hx
  have hli : (l.length : Int) ≤ 400000 := by omega
  rcases hv : validS l with _ | _
  · have HE : Hid (orderP l = ([], 2)) := by show _ = _; unfold orderP; rw [hv]; rfl
    rw [hv] at HV
    clear hx hv
    generalize orderP l = R at *
    refine (callsIn_wide (n := 3)).1 ?_
    have HV2 := Lib.hid ((callsIn_wide (n := 2)).2 HV.out)
    refine callsIn_of_wp_marks Tryz.func81 rfl trivial ?_ rfl
    simp only [Tryz.ntmps81, List.size_toArray, List.length_cons, List.length_nil, Nat.reduceAdd, Nat.reduceSub, Array.replicate_succ, Array.replicate_zero, List.push_toArray, List.append_toArray, List.nil_append, List.cons_append]
    gi_wp2
    refine ⟨trivial, HV2.out.mono ?_⟩
    rintro e w2 ⟨rfl, hb⟩
    have HB := Lib.hid hb
    clear hb HV HV2
    gi_wp2
    refine retM (v := .tuple #[.slice none 0 0, .int .i64 2]) (by simp [results, Tryz.results81, go_sem]) rfl ?_
    exact ⟨_, by rw [HE.out], by rw [HE.out]; exact ON.nil _ _ _, HB.out⟩
  · have HE : Hid (orderP l = (orderS l, 0)) := by show _ = _; unfold orderP; rw [hv]; rfl
    have HVv := Lib.hid hv
    have HT := Lib.hid (fun (w : World) (h : RowN w a l) => (callsIn_wide (n := 2)).2 (treeOf_any l a c w hv h (by omega)))
    have HAl := Lib.hid (fun (m : Nat) (w : World) (h : Fo w m l) => (callsIn_wide (n := 2)).2 (tall_any m l w h))
    have HLn : Hid ((allD l).length ≤ l.length) := by show (BD l (0, 0) 0).length ≤ _; rw [bd_len]; exact bw_len hv (root_path l)
    rw [hv] at HV
    clear hx hv
    generalize orderP l = R at *
    refine (callsIn_wide (n := 3)).1 ?_
    have HV2 := Lib.hid ((callsIn_wide (n := 2)).2 HV.out)
    refine callsIn_of_wp_marks Tryz.func81 rfl trivial ?_ rfl
    simp only [Tryz.ntmps81, List.size_toArray, List.length_cons, List.length_nil, Nat.reduceAdd, Nat.reduceSub, Array.replicate_succ, Array.replicate_zero, List.push_toArray, List.append_toArray, List.nil_append, List.cons_append]
    gi_wp2
    refine ⟨trivial, HV2.out.mono ?_⟩
    rintro e w2 ⟨rfl, hb⟩
    have HB := Lib.hid hb
    have HX2 := Lib.hid (HX.out.keep hb)
    clear hb HV HV2
    obtain ⟨w3, hmk, ho3, hb3⟩ := make_cap_n l.length (by omega) w2
    have HO3 : Hid (ON w3 w.heap.size EN (.slice (some ⟨w2.heap.size, 0, none⟩) 0 l.length) []) := ho3.mono fun k hk => by cases hk; exact HB.out.size
    have HB3 := Lib.hid (bel_tr HB.out hb3)
    have HX3 := Lib.hid (HX2.out.keep hb3)
    clear ho3 hb3
    gi_wp2
    have HG := Lib.hid (bx_new w3 (.slice (some ⟨w2.heap.size, 0, none⟩) 0 l.length) TN)
    have hbx := bel_box w3 (.cells #[.slice (some ⟨w2.heap.size, 0, none⟩) 0 l.length] TN)
    replace HO3 := Lib.hid (HO3.out.below hbx)
    have HGw : Hid (w.heap.size ≤ w3.heap.size) := HB3.out.size
    replace HB3 := Lib.hid (bel_tr HB3.out hbx)
    replace HX3 := Lib.hid (HX3.out.keep hbx)
    clear hbx
    generalize w3.heap.size = G at *
    generalize w3.alloc (.cells #[.slice (some ⟨w2.heap.size, 0, none⟩) 0 l.length] TN) = w4 at *
    refine ⟨trivial, (HT.out _ HX3.out).mono ?_⟩
    rintro e w5 ⟨m, rfl, hf, hb⟩
    have HF := Lib.hid hf
    replace HG := Lib.hid (HG.out.keep hb)
    replace HO3 := Lib.hid (HO3.out.below hb)
    replace HB3 := Lib.hid (bel_tr HB3.out hb)
    clear hf hb HX3 HT
    gi_wp2
    refine ⟨trivial, (HAl.out _ _ HF.out).mono ?_⟩
    rintro e w6 ⟨b1, b2, rfl, hq, hb⟩
    have HQ := Lib.hid hq
    replace HG := Lib.hid (HG.out.keep hb)
    replace HO3 := Lib.hid (HO3.out.below hb)
    replace HB3 := Lib.hid (bel_tr HB3.out hb)
    have HSQ := Lib.hid (below_seq l HVv.out hlx m (0, 0) [] (root_path l) fit_root w6 b1 b2)
    clear hq hb HAl HF
    gi_wp2
    refine range_own (by decide) rfl enters_below rfl (allD l) (Qb m b1 b2 (0, 0) l) HSQ.out (fun _ => rfl) (fun pre A => Cj w w.heap.size G TN EN 6 (pre.map (·.2)).length (cellsN (pre.map (·.2))) A ∧ Qb m b1 b2 (0, 0) l A) (fun c A => False)
      (fun pre => (Cj.abF HB3.out.size (by decide) (by decide)).and (Qb.abF (Fo.lt HQ.out.1))) (fun c => AbF.const _) (fun pre A h => h.2) (fun c A h => h.elim) ⟨⟨HB3.out, _, HG.out, HO3.out⟩, HQ.out⟩ ?a1 (fun x A => A.alloc (.cells (nc x.2) 53)) (fun x b W => Nb W b x.2) (fun x W => ⟨bel_box _ _, Nb.new W x.2⟩) (fun x b A A' row => nb_row x.2 b A A' row) ?assign ?body ?done ?stop
    case assign =>
      intro l' y A K g hg hK
      gi_wp2
      rw [← hg]
      exact hK
    case body =>
      rintro l' pre y b A ⟨⟨h1, v1, h2, h3⟩, h4⟩ ⟨k0, k1, k2, k3, k4, k5⟩ hbl hpre
      have hpl := hpre.length_le
      rw [List.length_append] at hpl
      obtain ⟨m1, hm1⟩ : ∃ m1, m1 = pre.map (·.2) := ⟨_, rfl⟩
      obtain ⟨m2, hm2⟩ : ∃ m2, m2 = m1 ++ [y.2] := ⟨_, rfl⟩
      have hm3 : (pre ++ [y]).map (·.2) = m2 := by rw [hm2, hm1]; simp
      rw [← hm1] at h3
      rw [hm3]
      have hml : m1.length ≤ 400000 := by have := HLn.out; rw [hm1, List.length_map]; simp at hpl; omega
      have H3 : Hid (ON A w.heap.size EN v1 m1) := h3
      obtain ⟨a1, cc1, rfl, -, -, -, -⟩ := H3.out.row
      have c0 := h2.cell
      have H1 := Lib.hid h1
      have H2 := Lib.hid h2
      have H4 := Lib.hid h4
      have HM := Lib.hid hm2
      have HML := Lib.hid hml
      clear h1 h2 h3 h4 hpl hpre hm1 hm2 hm3 hml
      gi_wp2_with (
        gi_at_builtin
        refine wpListIn_appN rfl _ _ _ rfl Tryz.underlying22 infoN _ _ rfl (H3.out.below (bel_box _ _)) (some ⟨A.heap.size, 0, none⟩) [y.2] 1 1 rfl rfl (RowN.lit A [y.2] _ _ _ rfl) (fun h => by cases h) (by have := HML.out; simp only [List.length_cons, List.length_nil]; omega) (by have := H1.out.size; simp; omega) ?_
        intro v5 W5 ho5 hg5 hgr
        rw [← HM.out] at ho5
        obtain ⟨g1, g2, g3⟩ := Cj.step (ks := [EA]) (C := w6.heap.size) H1.out (Nat.le_refl _) HGw.out H2.out H3.out (by decide) (by decide) (by decide) hg5 ho5
        have g4 := Qb.step (v2 := v5) H4.out H2.out H3.out (by decide) (by decide) ⟨by decide, .inl (by decide), by decide, by decide⟩ hg5
        obtain ⟨a5, c5, rfl, -, -, -, -⟩ := ON.row ho5
        have G1 := Lib.hid g1
        have G2 := Lib.hid g2
        have G4 := Lib.hid g4
        have c3 := g3.cell
        have f3 := g3.free
        clear g1 g2 g3 g4 c0 ho5 hg5 hgr H1 H2 H3 H4)
      exact ⟨G2.out, G1.out, G4.out⟩
    case stop =>
      rintro D c A hD hf hK
      exact hf.elim
    case done =>
      rintro D A hD ⟨⟨h1, v1, h2, h3⟩, h4⟩ hK
      rw [all_snd] at h3
      have H3 : Hid (ON A w.heap.size EN v1 (orderS l)) := h3
      have c0 := h2.cell
      have H1 := Lib.hid h1
      have HK := Lib.hid hK
      clear h1 h2 h3 h4 hK
      gi_wp2
      refine retM1 (v := .tuple #[v1, .int .i64 0]) rfl HK.out (by simp [results, Tryz.results81, go_sem]) ?_
      have hDw : w.heap.size ≤ D := Nat.le_trans HB3.out.size hD
      exact ⟨v1, by rw [HE.out], by rw [HE.out]; exact (own_abF (tys := []) (B := 0) (by simp)).put _ H3.out (Nat.zero_le _) HK.out rfl, (below_abF (tys := []) (Nat.le_refl _)).put _ H1.out hDw HK.out rfl⟩
end Go.Proofs.YtkcbekebleodaaaGreat.Un
end

/-
  The functions of package index, and what they ask of the library.
-/
section
namespace Go.Proofs.YtkcbekebleodaaaGreat.Un
set_option linter.unusedVariables false
open Go.RowKit V Go.Shelf Go.Sort D Nd Qs Wk Ix
attribute [local irreducible] Sch.heldN Sch.stepV Sch.stepE

/-! ### The library's IndexFunc, exactly -/
set_option maxRecDepth 100000 in
set_option maxHeartbeats 1000000 in
theorem indexN (l : List Nt) (a : Option Addr) (c g : Nat) (cb : Array Value) (p : Nt → Bool) (w : World) (eg : ∀ args w, (callFunc g args).run Tryz.prog w = .ok (.enter g args) w) (hp : AskN w g cb l p) (hx : RowN w a l) (hlx : l.length ≤ 1000000) :
    Calls Tryz.prog 109 #[.slice a l.length c, .func (.func g) #[] cb] w fun e w' => e = .returned (.int .i64 (posI p l)) ∧ Below w.heap.size w w' := by
  have HP := Lib.hid hp
  have HX := Lib.hid hx
  have hli : (l.length : Int) ≤ 1000000 := by omega
  clear hp hx hlx
  go_enter Tryz.func109, Tryz.ntmps109
  go_wp2_with fail
  go_loopw [5, 8] (fun _ i wr => ∃ k : Nat, k ≤ l.length ∧ i = .int .i64 (k : Int) ∧ Hid (Below w.heap.size w wr) ∧ Hid (∀ j (hj : j < l.length), j < k → p l[j] = false)) (fun _ i _ => l.length - (intOf i).toNat)
  case atStart => exact ⟨0, Nat.zero_le _, rfl, Below.refl _ _, fun j _ h => by omega⟩
  case round =>
    obtain ⟨k, hk, rfl, hh, HV⟩ := hrel
    by_cases hlt : k < l.length
    · obtain ⟨b1, o1, rfl, p0, p1, p2, p3, p4, p5⟩ := (HX.out.keep hh.out).get k hlt
      have HQ := Lib.hid (HP.out wr hh.out l[k] (List.getElem_mem hlt))
      have HT := Lib.hid (pos_here (p := p) hlt)
      obtain ⟨q, hq⟩ : ∃ q, q = l[k] := ⟨_, rfl⟩
      rw [← hq] at p0 p1 p2 p3 p4 p5 HQ HT
      have HQe := Lib.hid hq
      have hi1 : (k : Int) < (l.length : Int) := by omega
      clear hq
      obtain ⟨⟨q1, q2⟩, ⟨q3, q4⟩, q5, q6⟩ := q
      go_wp2_with fail
      refine HQ.out.mono ?_
      rintro e w3 ⟨rfl, hb⟩
      have HB := Lib.hid (bel_tr hh.out hb)
      clear hb HQ
      rcases hpq : p ((q1, q2), (q3, q4), q5, q6) with _ | _
      · go_wp2_with fail
        go_roundw
        case rel =>
          refine ⟨k + 1, by omega, by go_num, HB, fun j hj hjk => ?_⟩
          by_cases hjk2 : j = k
          · subst hjk2; rw [← HQe.out]; exact hpq
          · exact HV.out j hj (by omega)
        case measure => simp [intOf]; omega
      · have hT := HT.out hpq HV.out
        go_wp2_with fail
        go_ret
        exact ⟨by rw [hT]; rfl, HB.out⟩
    · obtain rfl : k = l.length := by omega
      have HN : Hid (posI p l = -1) := pos_away fun j hj => HV.out j hj hj
      have hend : ¬ (l.length : Int) < (l.length : Int) := by omega
      go_wp2_with fail
      go_ret
      exact ⟨by rw [HN.out]; rfl, hh.out⟩


/-! ### The library's DeleteFunc -/
/-- What the loop keeps: l' is the row now; the first i of it are what is kept of the first j of l, from j on it is as it was. -/
structure Del (p : Nt → Bool) (l M : List Nt) (i j : Nat) : Prop where
  len : M.length = l.length
  ij : i ≤ j
  jl : j ≤ l.length
  low : M.take i = (l.take j).filter fun x => !p x
  high : ∀ t (h : t < l.length) (h2 : t < M.length), j ≤ t → M[t] = l[t]
theorem Del.start {p : Nt → Bool} {l : List Nt} {k : Nat} (hk : k < l.length) (h : p l[k] = true) (hn : ∀ j (hj : j < l.length), j < k → p l[j] = false) : Del p l l k (k + 1) := {
  len := rfl
  ij := Nat.le_succ k
  jl := hk
  low := by
    rw [List.take_succ_eq_append_getElem hk, List.filter_append]
    have e : (l.take k).filter (fun x => !p x) = l.take k := List.filter_eq_self.2 fun x hx => by
      obtain ⟨i, hi, rfl⟩ := List.mem_iff_getElem.1 hx
      rw [List.length_take] at hi
      rw [List.getElem_take, hn i (by omega) (by omega)]
      rfl
    rw [e]
    simp [h]
  high := fun t h h2 _ => rfl }
theorem Del.skip {p : Nt → Bool} {l M : List Nt} {i j : Nat} (h : Del p l M i j) (hj : j < l.length) (hp : p l[j] = true) : Del p l M i (j + 1) := {
  len := h.len
  ij := Nat.le_succ_of_le h.ij
  jl := hj
  low := by rw [List.take_succ_eq_append_getElem hj, List.filter_append, ← h.low]; simp [hp]
  high := fun t h1 h2 ht => h.high t h1 h2 (by omega) }
theorem Del.keep {p : Nt → Bool} {l M : List Nt} {i j : Nat} (h : Del p l M i j) (hj : j < l.length) (hp : p l[j] = false) : Del p l (M.set i l[j]) (i + 1) (j + 1) := {
  len := by rw [List.length_set]; exact h.len
  ij := Nat.succ_le_succ h.ij
  jl := hj
  low := by
    have hi : i < M.length := by rw [h.len]; exact Nat.lt_of_le_of_lt h.ij hj
    rw [List.take_succ_eq_append_getElem (by rw [List.length_set]; exact hi), List.getElem_set_self, List.take_set_of_le (Nat.le_refl _), h.low, List.take_succ_eq_append_getElem hj, List.filter_append]
    simp [hp]
  high := fun t h1 h2 ht => by
    rw [List.length_set] at h2
    rw [List.getElem_set_ne (by have := h.ij; omega)]
    exact h.high t h1 h2 (by omega) }
theorem Del.done {p : Nt → Bool} {l M : List Nt} {i : Nat} (h : Del p l M i l.length) : M.take i = l.filter fun x => !p x := by rw [h.low, List.take_length]

set_option maxRecDepth 100000 in
set_option maxHeartbeats 4000000 in
theorem delete_any (l : List Nt) (gf : Nat) (p : Nt → Bool) (v : Value) (base : Nat) (w : World) (eg : ∀ args w, (callFunc gf args).run Tryz.prog w = .ok (.enter gf args) w) (hp : ∀ (n : Nt) (W : World), Calls Tryz.prog gf #[nv n] W fun e w' => e = .returned (.bool (p n)) ∧ Below W.heap.size W w') (ho : ON w base EN v l) (hlx : l.length ≤ 1000000) :
    Calls Tryz.prog 99 #[v, .func (.func gf) #[] #[]] w fun e w' => ∃ v', e = .returned v' ∧ ON w' base EN v' (l.filter fun x => !p x) ∧ w.grownBy w' v.ownBlock := by
  have HP := Lib.hid hp
  have hli : (l.length : Int) ≤ 1000000 := by omega
  obtain ⟨a, c, rfl, hr, -, hlc, hx⟩ := ON.row ho
  have HIx := Lib.hid (indexN l a c gf #[] p w eg (fun W _ n _ => hp n W) hr hlx)
  have HO := Lib.hid ho
  have HLc := Lib.hid hlc
  clear hp hr ho hlc
  by_cases hany : ∃ k, ∃ hk : k < l.length, p l[k] = true ∧ ∀ j (hj : j < l.length), j < k → p l[j] = false
  · obtain ⟨k, hk, hpk, hno⟩ := hany
    rw [pos_here hk hpk hno] at HIx
    have HDl := Lib.hid (Del.start hk hpk hno)
    clear hpk hno
    obtain ⟨g, rfl⟩ : ∃ g, a = some ⟨g, 0, none⟩ := by
      rcases a with _ | x
      · have := HO.out.r.1
        rcases this with h | ⟨b, o, h, -⟩
        · rw [h] at hk; exact absurd hk (Nat.not_lt_zero _)
        · cases h
      · obtain ⟨e, -⟩ := hx x rfl
        exact ⟨x.block, by rw [← e]⟩
    have HG : Hid (g < w.heap.size) := (hx _ rfl).2.2.2
    clear hx
    have hne : ¬ (k : Int) = -1 := by omega
    have hkl : (k : Int) ≤ 1000000 := by omega
    go_enter Tryz.func99, Tryz.ntmps99
    go_wp2_with fail
    refine HIx.out.mono ?_
    rintro e w2 ⟨rfl, hb⟩
    have HB := Lib.hid hb
    have HO2 := Lib.hid (HO.out.below hb)
    clear hb HIx
    go_wp2_with fail
    go_loopw [5, 6, 7] (fun i j _ wr => ∃ (m t : Nat) (M : List Nt), i = .int .i64 (m : Int) ∧ j = .int .i64 (t : Int) ∧ m < t ∧ t ≤ l.length ∧ M.length = l.length ∧ Hid (Del p l M m t) ∧ Hid (ON wr base EN (.slice (some ⟨g, 0, none⟩) l.length c) M) ∧ Hid (w.grownBy wr (some g)) ∧ Hid (g < wr.heap.size)) (fun _ j _ _ => l.length - (intOf j).toNat)
    case atStart => exact ⟨k, k + 1, l, rfl, by go_num, by omega, by omega, rfl, HDl, HO2, gb_below HB.out _, Nat.lt_of_lt_of_le HG.out HB.out.size⟩
    case round =>
      clear HO2 HDl
      obtain ⟨m, t, M, rfl, rfl, hmt, htl, hMl, HDl, HO2, HGr, HGs⟩ := hrel
      have hti : (t : Int) ≤ 1000000 := by omega
      have hmi : (m : Int) ≤ 1000000 := by omega
      by_cases hlt : t < l.length
      · have hi0 : (t : Int) < (l.length : Int) := by omega
        have htM : t < M.length := by omega
        have hmM : m < l.length := by omega
        have hna := HO2.out.na t htM
        rw [HDl.out.high t hlt htM (Nat.le_refl _)] at hna
        have hix := ixN g 0 l.length c t (t : Int) rfl hlt
        have hix2 := ixN g 0 l.length c m (m : Int) rfl hmM
        rw [Nat.zero_add] at hix hix2
        have HPk := Lib.hid (HP.out l[t])
        have HDk := Lib.hid (HDl.out.keep hlt)
        have HDs := Lib.hid (HDl.out.skip hlt)
        have HPut := Lib.hid (fun (w : World) (h : ON w base EN (.slice (some ⟨g, 0, none⟩) l.length c) M) => h.put (k := m) (by omega) l[t])
        obtain ⟨q, hq⟩ : ∃ q, q = l[t] := ⟨_, rfl⟩
        rw [← hq] at hna HPk HDk HDs HPut
        have HM := Lib.hid hMl
        clear hq HDl hMl
        have hb2 := bel_box wr (.cells (nc q) 53)
        have HO3 := Lib.hid (HO2.out.below hb2)
        have HGr3 := Lib.hid (gb_trans HGr.out (gb_below hb2 _))
        have HGs3 := Lib.hid (Nat.lt_of_lt_of_le HGs.out hb2.size)
        have HN3 := Lib.hid (Nb.new wr q)
        clear hb2 HO2 HGr
        obtain ⟨n0, n1, n2, n3, n4, n5⟩ := hna
        obtain ⟨⟨q1, q2⟩, ⟨q3, q4⟩, q5, q6⟩ := q
        go_wp2_with fail
        refine (HPk.out _).mono ?_
        rintro e w4 ⟨rfl, hb⟩
        replace HO3 := Lib.hid (HO3.out.below hb)
        replace HGr3 := Lib.hid (gb_trans HGr3.out (gb_below hb _))
        replace HGs3 := Lib.hid (Nat.lt_of_lt_of_le HGs3.out hb.size)
        replace HN3 := Lib.hid (HN3.out.keep hb)
        clear hb HPk n0 n1 n2 n3 n4 n5 HGs
        rcases hpq : p ((q1, q2), (q3, q4), q5, q6) with _ | _
        · have hfr := HO3.out.free
          obtain ⟨n0, n1, n2, n3, n4, n5⟩ := HN3.out
          obtain ⟨m0, m1, m2, m3, m4, m5⟩ := HO3.out.na m (by have := HM.out; omega)
          have f0 := hfr (m * 6)
          have f1 := hfr (m * 6 + 1)
          have f2 := hfr (m * 6 + 2)
          have f3 := hfr (m * 6 + 3)
          have f4 := hfr (m * 6 + 4)
          have f5 := hfr (m * 6 + 5)
          have HO4 := Lib.hid (HPut.out w4 HO3.out)
          have HGr4 := Lib.hid (gb_trans HGr3.out (putAt_gb w4 g (m * 6) ((q1, q2), (q3, q4), q5, q6)))
          have HGs4 : Hid (g < (putAt w4 g (m * 6) ((q1, q2), (q3, q4), q5, q6)).heap.size) := Nat.lt_of_lt_of_le HGs3.out (putAt_gb w4 g (m * 6) ((q1, q2), (q3, q4), q5, q6)).size
          have HDk2 := Lib.hid (HDk.out hpq)
          clear hfr HDk HDs HPut
          go_wp2_with fail
          refine ⟨?_, ?measure⟩
          · (repeat apply Exists.intro)
            refine ⟨?rel, rfl⟩
            exact ⟨m + 1, t + 1, M.set m ((q1, q2), (q3, q4), q5, q6), by go_num, by go_num, by omega, by omega, by rw [List.length_set]; exact HM.out, HDk2, HO4, HGr4, HGs4⟩
          case measure => simp [intOf]; omega
        · have HDs2 := Lib.hid (HDs.out hpq)
          clear HDk HDs HPut
          go_wp2_with fail
          refine ⟨?_, ?measure2⟩
          · (repeat apply Exists.intro)
            refine ⟨?rel2, rfl⟩
            exact ⟨m, t + 1, M, rfl, by go_num, by omega, by omega, HM.out, HDs2, HO3, HGr3, HGs3⟩
          case measure2 => simp [intOf]; omega
      · obtain rfl : t = l.length := by omega
        have hend : ¬ (l.length : Int) < (l.length : Int) := by omega
        have HDn := Lib.hid HDl.out.done
        have hcut := cut_hiN (some ⟨g, 0, none⟩) l.length c m (l.length - m) (by omega) HLc.out
        have hcut2 := cut_loN (some ⟨g, 0, none⟩) l.length c m (by have := HLc.out; omega)
        have hml : (m : Int) ≤ (l.length : Int) := by omega
        have hmM : m < M.length := by omega
        obtain ⟨vs, hcl⟩ := run_clearN wr HO2.out m (c - m) hmM
        rw [hMl] at hcl
        have HOc := Lib.hid (HO2.out.clears m (by omega) vs)
        rw [HDn.out] at HOc
        have HFl : Hid ((l.filter fun x => !p x).length = m) := by show _ = _; rw [← HDn.out, List.length_take]; omega
        have HGe := Lib.hid (gb_trans HGr.out (gb_setCells g vs (m * 6) wr))
        have hoff : offN (some ⟨g, 0, none⟩) c m = some ⟨g, m * 6, none⟩ := by unfold offN; rw [if_neg (by have := HLc.out; omega)]; show some ((⟨g, 0, none⟩ : Addr).add (m * 6)) = _; unfold Addr.add; split <;> simp_all
        rw [hoff] at hcut
        clear hMl hmM HDl HO2 HGr HDn
        go_wp2_with fail
        go_ret
        refine ⟨_, rfl, ?_, HGe.out⟩
        rw [← HFl.out] at HOc ⊢
        exact HOc.out
  · have hnone : ∀ j (hj : j < l.length), p l[j] = false := by
      intro j
      induction j using Nat.strongRecOn with
      | _ j ih =>
        intro hj
        rcases hpj : p l[j] with _ | _
        · rfl
        · exact absurd ⟨j, hj, hpj, fun i hi hij => ih i hij hi⟩ hany
    rw [pos_away hnone] at HIx
    have HF : Hid ((l.filter fun x => !p x) = l) := List.filter_eq_self.2 fun x hx => by
      obtain ⟨i, hi, rfl⟩ := List.mem_iff_getElem.1 hx
      rw [hnone i hi]
      rfl
    clear hany hnone hx
    go_enter Tryz.func99, Tryz.ntmps99
    go_wp2_with fail
    refine HIx.out.mono ?_
    rintro e w2 ⟨rfl, hb⟩
    have HB := Lib.hid hb
    have HO2 := Lib.hid (HO.out.below hb)
    clear hb HIx
    go_wp2_with fail
    go_ret
    exact ⟨_, rfl, by rw [HF.out]; exact HO2.out, gb_below HB.out _⟩
end Go.Proofs.YtkcbekebleodaaaGreat.Un
end

/-
  The functions of package index.
-/
section
namespace Go.Proofs.YtkcbekebleodaaaGreat.Un
set_option linter.unusedVariables false
open Go.RowKit V Go.Shelf Go.Sort D Nd Qs Wk Ix
attribute [local irreducible] Sch.heldN Sch.stepV Sch.stepE

/-! ### Visible nodes -/
theorem enters_deadI : ∀ args w, (callFunc 95 args).run Tryz.prog w = .ok (.enter 95 args) w := enters_of Tryz.func95 (by kernel_rfl) rfl
set_option maxRecDepth 100000 in
theorem alive_prog (l : List Nt) (v : Value) (base : Nat) (w : World) (ho : ON w base EN v l) (hlx : l.length ≤ 1000000) :
    Calls Tryz.prog 82 #[v] w fun e w' => ∃ v', e = .returned v' ∧ ON w' base EN v' (aliveL l) ∧ w.grownBy w' v.ownBlock := by
  have HC := Lib.hid (delete_any l 95 deadN v base w enters_deadI (fun n W => (dead_any n W).mono fun _ _ h => ⟨h.1, h.2.bel⟩) ho hlx)
  clear ho hlx
  go_enter Tryz.func82, Tryz.ntmps82
  go_wp2_with fail
  refine HC.out.mono ?_
  rintro e w2 ⟨v2, rfl, ho, hg⟩
  have HO := Lib.hid ho
  have HGr := Lib.hid hg
  clear ho hg HC
  go_wp2_with fail
  go_ret
  exact ⟨v2, rfl, HO.out, HGr.out⟩
def visP (l : List Nt) : List Nt × Int := (aliveL (orderP l).1, (orderP l).2)
theorem orderP_len (l : List Nt) : (orderP l).1.length ≤ l.length := by
  unfold orderP
  split
  · rename_i hv
    have := both_len hv
    show (orderS l).length ≤ _
    omega
  · exact Nat.zero_le _
theorem visP_len (l : List Nt) : (visP l).1.length ≤ l.length := by
  have h1 : (aliveL (orderP l).1).length ≤ (orderP l).1.length := List.length_filter_le _ _
  exact Nat.le_trans h1 (orderP_len l)
set_option maxRecDepth 100000 in
set_option maxHeartbeats 1000000 in
theorem visible_prog (l : List Nt) (a : Option Addr) (c : Nat) (w : World) (hx : RowN w a l) (hlx : l.length ≤ 400000) :
    Calls Tryz.prog 61 #[.slice a l.length c] w fun e w' => ∃ v, e = .returned (.tuple #[v, .int .i64 (visP l).2]) ∧ ON w' w.heap.size EN v (visP l).1 ∧ Below w.heap.size w w' := by
  have HC := Lib.hid (order_prog l a c w hx hlx)
  have HOl : Hid ((orderP l).1.length ≤ 1000000) := by have := orderP_len l; show _ ≤ _; omega
  have HA := Lib.hid (fun v base w h => alive_prog (orderP l).1 v base w h HOl.out)
  have HE : Hid (visP l = (aliveL (orderP l).1, (orderP l).2)) := rfl
  clear hx hlx
  generalize visP l = R at *
  generalize orderP l = Q at *
  obtain ⟨o, z⟩ := Q
  simp only at HC HA HE
  generalize aliveL o = al at *
  go_enter Tryz.func61, Tryz.ntmps61
  go_wp2_with fail
  refine HC.out.mono ?_
  rintro e w2 ⟨v2, rfl, ho, hb⟩
  have HO := Lib.hid ho
  have HB := Lib.hid hb
  clear ho hb HC
  go_wp2_with fail
  refine (HA.out _ _ _ HO.out).mono ?_
  rintro e w3 ⟨v3, rfl, ho, hg⟩
  have HO3 := Lib.hid ho
  have HB3 := Lib.hid (bel_low HB.out hg (fun x e => (HO.out.lt x e).1))
  clear ho hg HA
  go_wp2_with fail
  go_ret2
  exact ⟨v3, by rw [HE.out]; rfl, by rw [HE.out]; exact HO3.out, HB3.out⟩

/-! ### Where a dot stands -/



/-! ### The first error -/
set_option maxRecDepth 100000 in
theorem unless_prog (b : Bool) (z : Int) (w : World) : Calls Tryz.prog 63 #[.bool b, .int .i64 z] w fun e w' => e = .returned (.int .i64 (if b = true then 0 else z)) ∧ w' = w := by
  cases b
  · go_enter Tryz.func63, Tryz.ntmps63
    go_wp2_with fail
    go_ret
    exact ⟨rfl, rfl⟩
  · go_enter Tryz.func63, Tryz.ntmps63
    go_wp2_with fail
    go_ret
    exact ⟨rfl, rfl⟩
def firstE : List Int → Int
  | [] => 0
  | e :: t => if e = 0 then firstE t else e
theorem firstE_drop {es : List Int} {k : Nat} (hk : k < es.length) : firstE (es.drop k) = if es[k] = 0 then firstE (es.drop (k + 1)) else es[k] := by
  rw [List.drop_eq_getElem_cons hk, firstE]
set_option maxRecDepth 100000 in
set_option maxHeartbeats 1000000 in
theorem first_prog (es : List Int) (b o c : Nat) (w : World) (hx : G.RowI .i64 w (some ⟨b, o, none⟩) es) (hlx : es.length ≤ 1000) :
    Calls Tryz.prog 62 #[.slice (some ⟨b, o, none⟩) es.length c] w fun e w' => e = .returned (.int .i64 (firstE es)) ∧ w' = w := by
  have HX := Lib.hid hx
  have hli : (es.length : Int) ≤ 1000 := by omega
  clear hx hlx
  go_enter Tryz.func62, Tryz.ntmps62
  go_wp2_with fail
  go_loopw [4, 7] (fun _ i wr => ∃ k : Nat, k ≤ es.length ∧ i = .int .i64 (k : Int) ∧ wr = w ∧ Hid (firstE es = firstE (es.drop k))) (fun _ i _ => es.length - (intOf i).toNat)
  case atStart => exact ⟨0, Nat.zero_le _, rfl, rfl, by show _ = _; rw [List.drop_zero]⟩
  case round =>
    obtain ⟨k, hk, rfl, rfl, HF⟩ := hrel
    by_cases hlt : k < es.length
    · have hi0 : (k : Int) < (es.length : Int) := by omega
      have hc : wr.cell? ⟨b, o + k, none⟩ = some (.int .i64 es[k]) := by
        rcases HX.out with h | ⟨b', o', e, h⟩
        · rw [h] at hlt; exact absurd hlt (Nat.not_lt_zero _)
        · cases e; exact h k hlt
      have HF2 : Hid (firstE es = if es[k] = 0 then firstE (es.drop (k + 1)) else es[k]) := HF.out.trans (firstE_drop hlt)
      clear HF
      generalize es[k] = q at *
      by_cases hq : q = 0
      · subst hq
        go_wp2_with fail
        go_roundw
        case rel => exact ⟨k + 1, by omega, by go_num, by first | rfl | trivial, by have := HF2.out; rwa [if_pos rfl] at this⟩
        case measure => simp [intOf]; omega
      · go_wp2_with fail
        go_ret
        exact ⟨by rw [HF2.out, if_neg hq]; rfl, rfl⟩
    · obtain rfl : k = es.length := by omega
      have hend : ¬ (es.length : Int) < (es.length : Int) := by omega
      have HF2 : Hid (firstE es = 0) := HF.out.trans (by rw [List.drop_length]; rfl)
      go_wp2_with fail
      go_ret
      exact ⟨by rw [HF2.out]; rfl, rfl⟩
end Go.Proofs.YtkcbekebleodaaaGreat.Un
end

/-
  The exported functions of package index.
-/
section
namespace Go.Proofs.YtkcbekebleodaaaGreat.Un
set_option linter.unusedVariables false
open Go.RowKit V Go.Shelf Go.Sort D Nd Qs Wk Ix
attribute [local irreducible] Sch.heldN Sch.stepV Sch.stepE

theorem visP_cases (l : List Nt) : (validS l = true ∧ visP l = (visS l, 0)) ∨ (validS l = false ∧ visP l = ([], 2)) := by
  rcases hv : validS l with _ | _
  · exact .inr ⟨rfl, by unfold visP orderP; rw [hv]; rfl⟩
  · exact .inl ⟨rfl, by unfold visP orderP; rw [hv]; rfl⟩
def runesQ (l : List Nt) : List Int × Int := ((visP l).1.map (fun n => n.2.2.2), (visP l).2)
theorem infoR : (Tryz.prog.info? 21).map (fun i => (i.zero, i.size, i.bytes)) = some (some (.int .i32 0), 1, 4) := by kernel_rfl

theorem taken_succ {V : List Nt} {k : Nat} (h : k < V.length) : ((V.take (k + 1)).map fun n => n.2.2.2) = ((V.take k).map fun n => n.2.2.2) ++ [V[k].2.2.2] := by
  rw [List.take_succ_eq_append_getElem h, List.map_append]
  rfl
set_option maxRecDepth 100000 in
set_option maxHeartbeats 4000000 in
theorem runes_prog (l : List Nt) (a : Option Addr) (c : Nat) (w : World) (hx : RowN w a l) (hlx : l.length ≤ 400000) :
    Calls Tryz.prog 54 #[.slice a l.length c] w fun e w' => ∃ v, e = .returned (.tuple #[v, .int .i64 (runesQ l).2]) ∧ G.OI w' w.heap.size 21 .i32 v (runesQ l).1 ∧ Below w.heap.size w w' := by
  have HC := Lib.hid (visible_prog l a c w hx hlx)
  have HE : Hid (runesQ l = ((visP l).1.map (fun n => n.2.2.2), (visP l).2)) := rfl
  have HVl : Hid ((visP l).1.length ≤ 400000) := by have := visP_len l; show _ ≤ _; omega
  have HQ : Hid ((visP l).2 = 0 ∨ (visP l).2 = 2 ∧ (visP l).1 = []) := by
    rcases visP_cases l with ⟨-, h⟩ | ⟨-, h⟩
    · rw [h]; exact .inl rfl
    · rw [h]; exact .inr ⟨rfl, rfl⟩
  clear hx hlx
  generalize runesQ l = R at *
  generalize visP l = Q at *
  obtain ⟨V, z⟩ := Q
  simp only at HC HE HVl HQ
  have hvi : (V.length : Int) ≤ 400000 := by have := HVl.out; omega
  go_enter Tryz.func54, Tryz.ntmps54
  go_wp2_with fail
  refine HC.out.mono ?_
  rintro e w2 ⟨v2, rfl, ho, hb⟩
  obtain ⟨a2, c2, rfl, hr, -⟩ := ON.row ho
  have HB := Lib.hid hb
  have HW := Lib.hid hr
  clear ho hb hr HC
  rcases HQ.out with rfl | ⟨rfl, rfl⟩
  · obtain ⟨w3, v3, hmk, ho3, hb3⟩ := G.run_mkI w2 w2.heap.size Tryz.underlying26 infoR V.length (by have := HVl.out; omega) (by omega) (Nat.le_refl _)
    have HO3 := Lib.hid ho3
    have HZ3 := Lib.hid hb3
    clear ho3 hb3 HQ
    go_wp2_with fail
    go_loopw [6, 8, 22] (fun v _ i wr => ∃ k : Nat, k ≤ V.length ∧ i = .int .i64 (k : Int) ∧ Hid (Below w2.heap.size w2 wr) ∧ Hid (G.OI wr w2.heap.size 21 .i32 v ((V.take k).map fun n => n.2.2.2))) (fun _ _ i _ => V.length - (intOf i).toNat)
    case atStart => exact ⟨0, Nat.zero_le _, rfl, HZ3, HO3⟩
    case round =>
      clear HO3 HZ3
      obtain ⟨k, hk, rfl, HZ, HO⟩ := hrel
      by_cases hlt : k < V.length
      · have hi0 : (k : Int) < (V.length : Int) := by omega
        obtain ⟨b1, o1, e1, hna⟩ := na_of (HW.out.keep HZ.out) k hlt
        have HT := Lib.hid (taken_succ hlt)
        have HKl : Hid (((V.take k).map fun n => n.2.2.2).length ≤ 400000) := by have := HVl.out; show _ ≤ _; rw [List.length_map, List.length_take]; omega
        obtain ⟨q, hq⟩ : ∃ q, q = V[k] := ⟨_, rfl⟩
        rw [← hq] at hna HT
        subst e1
        clear hq
        have hb2 := bel_tr (bel_box wr (.cells (nc q) 53)) (bel_box _ (.cells #[.int .i32 q.2.2.2] 21))
        have HZ2 := Lib.hid (bel_tr HZ.out hb2)
        have HO2 := Lib.hid (HO.out.below hb2)
        have HBs : Hid (w2.heap.size ≤ ((wr.alloc (.cells (nc q) 53)).alloc (.cells #[.int .i32 q.2.2.2] 21)).heap.size) := HZ2.out.size
        clear hb2
        generalize hL : ((V.take k).map fun n => n.2.2.2) = L at *
        generalize hL2 : ((V.take (k + 1)).map fun n => n.2.2.2) = L2 at *
        obtain ⟨n0, n1, n2, n3, n4, n5⟩ := hna
        obtain ⟨⟨q1, q2⟩, ⟨q3, q4⟩, q5, q6⟩ := q
        clear hL
        go_wp2_with (at_builtin; refine G.wpList_appI rfl (.tmp 26) (.tmp 29) 26 rfl Tryz.underlying26 infoR _ L rfl HO2.out (wr.heap.size + 1) 0 1 1 [q6] rfl rfl (G.RowI.lit .i32 _ _ (by simp) [q6] _ _ rfl) (by have := HKl.out; simp; omega) (by omega) HBs.out ?_; intro v' w' ho' hg' hgr')
        have HO7 : Hid (G.OI w' w2.heap.size 21 .i32 v' L2) := by show G.OI _ _ _ _ _ _; rw [HT.out]; exact ho'
        have HZ7 := Lib.hid (HZ2.out.grown hg' HZ2.out.size (fun x hx => (HO2.out.lt x hx).1))
        clear ho' hg' hgr'
        refine ⟨⟨k + 1, by omega, by go_num, HZ7, by rw [hL2]; exact HO7⟩, ?_⟩
        simp [intOf]; omega
      · obtain rfl : k = V.length := by omega
        have hend : ¬ (V.length : Int) < (V.length : Int) := by omega
        rw [List.take_length] at HO
        have HB4 := Lib.hid (bel_tr HB.out HZ.out)
        have HO4 := Lib.hid (HO.out.mono HB.out.size)
        clear HO
        go_wp2_with fail
        go_ret2
        exact ⟨_, by rw [HE.out]; rfl, by rw [HE.out]; exact HO4.out, HB4.out⟩
  · go_wp2_with fail
    go_ret2
    exact ⟨_, by rw [HE.out]; rfl, by rw [HE.out]; exact G.OI.nil _ _ _ _, HB.out⟩
end Go.Proofs.YtkcbekebleodaaaGreat.Un
end

/-
  The exported functions of package index: Text, At, Of, Before, Left, Dots.
-/
section
namespace Go.Proofs.YtkcbekebleodaaaGreat.Un
set_option linter.unusedVariables false
open Go.RowKit V Go.Shelf Go.Sort D Nd Qs Wk Ix
attribute [local irreducible] Sch.heldN Sch.stepV Sch.stepE

theorem visP_or (l : List Nt) : (visP l).2 = 0 ∨ (visP l).2 = 2 ∧ (visP l).1 = [] := by
  rcases visP_cases l with ⟨-, h⟩ | ⟨-, h⟩
  · rw [h]; exact .inl rfl
  · rw [h]; exact .inr ⟨rfl, rfl⟩
theorem unless_no (z : Int) (w : World) : Calls Tryz.prog 63 #[.bool false, .int .i64 z] w fun e w' => e = .returned (.int .i64 z) ∧ w' = w := unless_prog false z w
theorem unless_yes (z : Int) (w : World) : Calls Tryz.prog 63 #[.bool true, .int .i64 z] w fun e w' => e = .returned (.int .i64 0) ∧ w' = w := unless_prog true z w

end Go.Proofs.YtkcbekebleodaaaGreat.Un
end

/-
  Left and Dots of package index.
-/
section
namespace Go.Proofs.YtkcbekebleodaaaGreat.Un
set_option linter.unusedVariables false
open Go.RowKit V Go.Shelf Go.Sort D Nd Qs Wk Ix
attribute [local irreducible] Sch.heldN Sch.stepV Sch.stepE

def leftI (l : List Nt) (i : Int) : Dt × Int :=
  if firstE [(visP l).2, if 0 ≤ i ∧ i ≤ ((visP l).1.length : Int) then 0 else 3] = 0 then (if i = 0 then (0, 0) else (((visP l).1.map (·.1))[(i - 1).toNat]?).getD (0, 0), 0)
  else ((0, 0), firstE [(visP l).2, if 0 ≤ i ∧ i ≤ ((visP l).1.length : Int) then 0 else 3])
theorem left_err {l : List Nt} {i : Int} (h : ¬ (0 ≤ i ∧ i ≤ ((visP l).1.length : Int))) : leftI l i = ((0, 0), firstE [(visP l).2, 3]) ∧ firstE [(visP l).2, 3] ≠ 0 := by
  have h3 : firstE [(visP l).2, 3] ≠ 0 := by
    unfold firstE firstE
    rcases visP_or l with h2 | ⟨h2, -⟩ <;> rw [h2] <;> decide
  refine ⟨?_, h3⟩
  unfold leftI
  rw [if_neg h, if_neg h3]
theorem left_zero (l : List Nt) : leftI l 0 = ((0, 0), firstE [(visP l).2, 0]) := by
  unfold leftI
  have hc : (0 : Int) ≤ 0 ∧ (0 : Int) ≤ ((visP l).1.length : Int) := ⟨Int.le_refl _, by omega⟩
  rw [if_pos hc]
  by_cases h : firstE [(visP l).2, 0] = 0
  · rw [if_pos h, if_pos rfl, h]
  · rw [if_neg h]
theorem left_yes {l : List Nt} {k : Nat} (h : k < (visP l).1.length) : leftI l ((k : Int) + 1) = ((visP l).1[k].1, 0) ∧ (visP l).2 = 0 := by
  have hz : (visP l).2 = 0 := by
    rcases visP_or l with h2 | ⟨h2, h3⟩
    · exact h2
    · rw [h3] at h; exact absurd h (Nat.not_lt_zero _)
  refine ⟨?_, hz⟩
  unfold leftI
  have hc : (0 : Int) ≤ (k : Int) + 1 ∧ (k : Int) + 1 ≤ ((visP l).1.length : Int) := ⟨by omega, by omega⟩
  rw [if_pos hc, hz, if_pos (show firstE [0, 0] = 0 from rfl), if_neg (by omega), show ((k : Int) + 1 - 1).toNat = k by omega, List.getElem?_eq_getElem (by rw [List.length_map]; exact h)]
  simp
theorem run_storeD_below {B : Nat} {a w : World} {g : Nat} (h : Below B a w) (hg : B ≤ g) (d : Dt) : Below B a ((w.setCell ⟨g, 0, none⟩ (.int .i64 d.1)).setCell ⟨g, 1, none⟩ (.int .i64 d.2)) :=
  (h.setCell (p := ⟨g, 0, none⟩) hg _).setCell (p := ⟨g, 1, none⟩) hg _
set_option maxRecDepth 100000 in
set_option maxHeartbeats 8000000 in
theorem leftI_prog (l : List Nt) (i : Int) (a : Option Addr) (c : Nat) (w : World) (hx : RowN w a l) (hlx : l.length ≤ 400000) :
    Calls Tryz.prog 40 #[.slice a l.length c, .int .i64 i] w fun e w' => e = .returned (.tuple #[dv (leftI l i).1, .int .i64 (leftI l i).2]) ∧ Below w.heap.size w w' := by
  have HB := Lib.hid (bel_box w (.cells #[.int .i64 0, .int .i64 0] 25))
  have HC := Lib.hid (visible_prog l a c _ (hx.keep HB.out) hlx)
  have HZ : Hid (Bd (w.alloc (.cells #[.int .i64 0, .int .i64 0] 25)) w.heap.size (0, 0)) := bd_new w (0, 0)
  have HVl : Hid ((visP l).1.length ≤ 400000) := by have := visP_len l; show _ ≤ _; omega
  have HNo := Lib.hid (left_err (l := l) (i := i))
  have HYe := Lib.hid (fun k h => left_yes (l := l) (k := k) h)
  have HLz := Lib.hid (left_zero l)
  clear hx hlx
  by_cases hin : 0 ≤ i ∧ i ≤ ((visP l).1.length : Int)
  · obtain ⟨hi0, hi1⟩ := hin
    by_cases hi2 : i = 0
    · subst hi2
      have HE := Lib.hid HLz.out
      clear HNo HYe HLz
      generalize leftI l 0 = R at *
      generalize visP l = Q at *
      obtain ⟨V, z⟩ := Q
      simp only at HC HE HVl hi1
      have hd0 : decide ((0 : Int) ≤ 0) = true := rfl
      have hd1 : decide ((0 : Int) ≤ (V.length : Int)) = true := decide_eq_true hi1
      go_enter Tryz.func40, Tryz.ntmps40
      go_wp2_with fail
      generalize w.alloc (.cells #[.int .i64 0, .int .i64 0] 25) = w1 at *
      refine HC.out.mono ?_
      rintro e w2 ⟨v2, rfl, ho, hb⟩
      obtain ⟨a2, c2, rfl, hr, -, hlc, -⟩ := ON.row ho
      have HW := Lib.hid hr
      have HLc := Lib.hid hlc
      replace HB := Lib.hid (bel_tr HB.out hb)
      replace HZ := Lib.hid (HZ.out.keep hb)
      clear ho hb hr HC hlc
      go_wp2_with fail
      refine (unless_yes 3 _).mono ?_
      rintro e w3 ⟨rfl, rfl⟩
      have hb := bel_box w3 (.cells ⟨[.int .i64 z, .int .i64 0]⟩ 29)
      replace HB := Lib.hid (bel_tr HB.out hb)
      replace HW := Lib.hid (HW.out.keep hb)
      replace HZ := Lib.hid (HZ.out.keep hb)
      have HR1 : Hid (G.RowI .i64 (w3.alloc (.cells ⟨[.int .i64 z, .int .i64 0]⟩ 29)) (some ⟨w3.heap.size, 0, none⟩) [z, 0]) := G.RowI.lit .i64 w3 _ rfl [z, 0] ⟨[.int .i64 z, .int .i64 0]⟩ _ rfl
      clear hb
      go_wp2_with fail
      refine (first_prog [z, 0] _ 0 2 _ HR1.out (by simp)).mono ?_
      rintro e w4 ⟨rfl, rfl⟩
      clear HR1
      generalize w3.alloc (.cells ⟨[.int .i64 z, .int .i64 0]⟩ 29) = w5 at *
      generalize firstE [z, 0] = r at *
      have z0 := HZ.out.c0
      have z1 := HZ.out.c1
      have f0 := bd_free HZ.out 0
      have f1 := bd_free HZ.out 1
      by_cases hr : r = 0
      · subst hr
        go_wp2_with fail
        (try simp only [Exit.inBlock, Exit.then])
        refine bodyPost_ret (v := .tuple #[.agg #[.int .i64 0, .int .i64 0], .int .i64 0]) (by rw [results_cell_tmp (fn := Tryz.f40) (p := 4) (u := 5) (ty := 25) rfl]; go_simp) rfl ?_
        rw [HE.out]
        exact ⟨rfl, run_storeD_below HB.out (by omega) (0, 0)⟩
      · go_wp2_with fail
        (try simp only [Exit.inBlock, Exit.then])
        refine bodyPost_ret (v := .tuple #[.agg #[.int .i64 0, .int .i64 0], .int .i64 r]) (by rw [results_cell_tmp (fn := Tryz.f40) (p := 4) (u := 5) (ty := 25) rfl]; go_simp) rfl ?_
        rw [HE.out]
        exact ⟨rfl, run_storeD_below HB.out (by omega) (0, 0)⟩
    · obtain ⟨k, rfl⟩ : ∃ k : Nat, i = (k : Int) + 1 := ⟨(i - 1).toNat, by omega⟩
      have hk : k < (visP l).1.length := by omega
      have hki : (k : Int) < ((visP l).1.length : Int) := by omega
      have hki0 : (0 : Int) ≤ (k : Int) := by omega
      have hd0 : decide ((0 : Int) ≤ (k : Int) + 1) = true := decide_eq_true hi0
      have hd1 : decide ((k : Int) + 1 ≤ ((visP l).1.length : Int)) = true := decide_eq_true hi1
      obtain ⟨hy1, hy2⟩ := HYe.out k hk
      have HE := Lib.hid hy1
      rw [hy2] at HC
      clear HNo HYe hy1 hy2 HLz
      generalize leftI l ((k : Int) + 1) = R at *
      generalize (visP l).1 = V at *
      obtain ⟨q, hq⟩ : ∃ q, q = V[k] := ⟨_, rfl⟩
      rw [← hq] at HE
      have HQ := Lib.hid hq
      have hkb : (k : Int) ≤ 400000 := by have := HVl.out; omega
      clear hq
      go_enter Tryz.func40, Tryz.ntmps40
      go_wp2_with fail
      generalize w.alloc (.cells #[.int .i64 0, .int .i64 0] 25) = w1 at *
      refine HC.out.mono ?_
      rintro e w2 ⟨v2, rfl, ho, hb⟩
      obtain ⟨a2, c2, rfl, hr, -, hlc, -⟩ := ON.row ho
      have HW := Lib.hid hr
      have HLc := Lib.hid hlc
      replace HB := Lib.hid (bel_tr HB.out hb)
      replace HZ := Lib.hid (HZ.out.keep hb)
      clear ho hb hr HC hlc
      go_wp2_with fail
      refine (unless_yes 3 _).mono ?_
      rintro e w3 ⟨rfl, rfl⟩
      have hb := bel_box w3 (.cells ⟨[.int .i64 0, .int .i64 0]⟩ 29)
      replace HB := Lib.hid (bel_tr HB.out hb)
      replace HW := Lib.hid (HW.out.keep hb)
      replace HZ := Lib.hid (HZ.out.keep hb)
      have HR1 : Hid (G.RowI .i64 (w3.alloc (.cells ⟨[.int .i64 0, .int .i64 0]⟩ 29)) (some ⟨w3.heap.size, 0, none⟩) [0, 0]) := G.RowI.lit .i64 w3 _ rfl [0, 0] ⟨[.int .i64 0, .int .i64 0]⟩ _ rfl
      clear hb
      go_wp2_with fail
      refine (first_prog [0, 0] _ 0 2 _ HR1.out (by simp)).mono ?_
      rintro e w4 ⟨rfl, rfl⟩
      clear HR1
      generalize w3.alloc (.cells ⟨[.int .i64 0, .int .i64 0]⟩ 29) = w5 at *
      have hfe : firstE [0, 0] = 0 := rfl
      rw [hfe]
      clear hfe
      obtain ⟨b1, o1, rfl, hna⟩ := na_of HW.out k hk
      rw [← HQ.out] at hna
      have hix := ixN b1 o1 V.length c2 k (k : Int) rfl hk
      obtain ⟨n0, n1, n2, n3, n4, n5⟩ := hna
      have z0 := HZ.out.c0
      have z1 := HZ.out.c1
      have f0 := bd_free HZ.out 0
      have f1 := bd_free HZ.out 1
      clear HQ
      obtain ⟨⟨q1, q2⟩, ⟨q3, q4⟩, q5, q6⟩ := q
      go_wp2_with fail
      (try simp only [Exit.inBlock, Exit.then])
      refine bodyPost_ret (v := .tuple #[.agg #[.int .i64 q1, .int .i64 q2], .int .i64 0]) (by rw [results_cell_tmp (fn := Tryz.f40) (p := 4) (u := 5) (ty := 25) rfl]; go_simp) rfl ?_
      rw [HE.out]
      exact ⟨rfl, run_storeD_below HB.out (by omega) (q1, q2)⟩
  · obtain ⟨hn1, hn2⟩ := HNo.out hin
    have HE := Lib.hid hn1
    clear HNo HYe hn1 HLz
    generalize leftI l i = R at *
    generalize visP l = Q at *
    obtain ⟨V, z⟩ := Q
    simp only at HC HE HVl hin hn2
    by_cases hi0 : 0 ≤ i
    · have hi1 : ¬ i ≤ (V.length : Int) := fun h => hin ⟨hi0, h⟩
      have hd0 : decide ((0 : Int) ≤ i) = true := decide_eq_true hi0
      have hd1 : decide (i ≤ (V.length : Int)) = false := decide_eq_false hi1
      clear hin
      go_enter Tryz.func40, Tryz.ntmps40
      go_wp2_with fail
      generalize w.alloc (.cells #[.int .i64 0, .int .i64 0] 25) = w1 at *
      refine HC.out.mono ?_
      rintro e w2 ⟨v2, rfl, ho, hb⟩
      obtain ⟨a2, c2, rfl, hr, -, hlc, -⟩ := ON.row ho
      have HW := Lib.hid hr
      have HLc := Lib.hid hlc
      replace HB := Lib.hid (bel_tr HB.out hb)
      replace HZ := Lib.hid (HZ.out.keep hb)
      clear ho hb hr HC hlc
      go_wp2_with fail
      refine (unless_no 3 _).mono ?_
      rintro e w3 ⟨rfl, rfl⟩
      have hb := bel_box w3 (.cells ⟨[.int .i64 z, .int .i64 3]⟩ 29)
      replace HB := Lib.hid (bel_tr HB.out hb)
      replace HW := Lib.hid (HW.out.keep hb)
      replace HZ := Lib.hid (HZ.out.keep hb)
      have HR1 : Hid (G.RowI .i64 (w3.alloc (.cells ⟨[.int .i64 z, .int .i64 3]⟩ 29)) (some ⟨w3.heap.size, 0, none⟩) [z, 3]) := G.RowI.lit .i64 w3 _ rfl [z, 3] ⟨[.int .i64 z, .int .i64 3]⟩ _ rfl
      clear hb
      go_wp2_with fail
      refine (first_prog [z, 3] _ 0 2 _ HR1.out (by simp)).mono ?_
      rintro e w4 ⟨rfl, rfl⟩
      clear HR1
      generalize w3.alloc (.cells ⟨[.int .i64 z, .int .i64 3]⟩ 29) = w5 at *
      generalize firstE [z, 3] = r at *
      have z0 := HZ.out.c0
      have z1 := HZ.out.c1
      have f0 := bd_free HZ.out 0
      have f1 := bd_free HZ.out 1
      go_wp2_with fail
      (try simp only [Exit.inBlock, Exit.then])
      refine bodyPost_ret (v := .tuple #[.agg #[.int .i64 0, .int .i64 0], .int .i64 r]) (by rw [results_cell_tmp (fn := Tryz.f40) (p := 4) (u := 5) (ty := 25) rfl]; go_simp) rfl ?_
      rw [HE.out]
      exact ⟨rfl, run_storeD_below HB.out (by omega) (0, 0)⟩
    · have hd0 : decide ((0 : Int) ≤ i) = false := decide_eq_false hi0
      clear hin
      go_enter Tryz.func40, Tryz.ntmps40
      go_wp2_with fail
      generalize w.alloc (.cells #[.int .i64 0, .int .i64 0] 25) = w1 at *
      refine HC.out.mono ?_
      rintro e w2 ⟨v2, rfl, ho, hb⟩
      obtain ⟨a2, c2, rfl, hr, -, hlc, -⟩ := ON.row ho
      have HW := Lib.hid hr
      have HLc := Lib.hid hlc
      replace HB := Lib.hid (bel_tr HB.out hb)
      replace HZ := Lib.hid (HZ.out.keep hb)
      clear ho hb hr HC hlc
      go_wp2_with fail
      refine (unless_no 3 _).mono ?_
      rintro e w3 ⟨rfl, rfl⟩
      have hb := bel_box w3 (.cells ⟨[.int .i64 z, .int .i64 3]⟩ 29)
      replace HB := Lib.hid (bel_tr HB.out hb)
      replace HW := Lib.hid (HW.out.keep hb)
      replace HZ := Lib.hid (HZ.out.keep hb)
      have HR1 : Hid (G.RowI .i64 (w3.alloc (.cells ⟨[.int .i64 z, .int .i64 3]⟩ 29)) (some ⟨w3.heap.size, 0, none⟩) [z, 3]) := G.RowI.lit .i64 w3 _ rfl [z, 3] ⟨[.int .i64 z, .int .i64 3]⟩ _ rfl
      clear hb
      go_wp2_with fail
      refine (first_prog [z, 3] _ 0 2 _ HR1.out (by simp)).mono ?_
      rintro e w4 ⟨rfl, rfl⟩
      clear HR1
      generalize w3.alloc (.cells ⟨[.int .i64 z, .int .i64 3]⟩ 29) = w5 at *
      generalize firstE [z, 3] = r at *
      have z0 := HZ.out.c0
      have z1 := HZ.out.c1
      have f0 := bd_free HZ.out 0
      have f1 := bd_free HZ.out 1
      go_wp2_with fail
      (try simp only [Exit.inBlock, Exit.then])
      refine bodyPost_ret (v := .tuple #[.agg #[.int .i64 0, .int .i64 0], .int .i64 r]) (by rw [results_cell_tmp (fn := Tryz.f40) (p := 4) (u := 5) (ty := 25) rfl]; go_simp) rfl ?_
      rw [HE.out]
      exact ⟨rfl, run_storeD_below HB.out (by omega) (0, 0)⟩
end Go.Proofs.YtkcbekebleodaaaGreat.Un
end

/-
  Dots of package index.
-/
section
namespace Go.Proofs.YtkcbekebleodaaaGreat.Un
set_option linter.unusedVariables false
open Go.RowKit V Go.Shelf Go.Sort D Nd Qs Wk Ix
attribute [local irreducible] Sch.heldN Sch.stepV Sch.stepE

theorem cut_midN (a : Option Addr) (len cap m n : Nat) (hmn : m ≤ n) (hn : n ≤ len) (hlc : len ≤ cap) : ∀ wx : World,
    (Instr.slice 22 (.slice a len cap) (some (.int .i64 (m : Int))) (some (.int .i64 (n : Int))) none).run Tryz.prog wx = .ok (.slice (offN a cap m) (n - m) (cap - m)) wx := by
  obtain ⟨i, hi, hz0, hz1, hz2⟩ := G.info_of infoN
  intro wx
  have h1 : (Instr.sliceBound (.int .i64 (n : Int)) cap .sliceAcap).run Tryz.prog wx = .ok n wx := by
    rw [run_sliceBound _ _ _ _ _ (by omega) (by omega)]; rfl
  have h2 : (Instr.sliceBound (.int .i64 (m : Int)) n .sliceB).run Tryz.prog wx = .ok m wx := by
    rw [run_sliceBound _ _ _ _ _ (by omega) (by omega)]; rfl
  simp [Instr.slice, run_underlying Tryz.underlying22, Instr.sliceBounds, h1, h2, Result.andThen, sizeOf, typeInfo, hi, hz1, offN]
def partE (l : List Nt) (i j : Int) : Int := firstE [(visP l).2, if 0 ≤ i ∧ i ≤ j ∧ j ≤ ((visP l).1.length : Int) then 0 else 3]
def idotsI (l : List Nt) (i j : Int) : List Dt × Int := if partE l i j = 0 then ((((visP l).1.drop i.toNat).take (j.toNat - i.toNat)).map (·.1), 0) else ([], partE l i j)
theorem part_err {l : List Nt} {i j : Int} (h : ¬ (0 ≤ i ∧ i ≤ j ∧ j ≤ ((visP l).1.length : Int))) : idotsI l i j = ([], firstE [(visP l).2, 3]) ∧ firstE [(visP l).2, 3] ≠ 0 := by
  have h3 : firstE [(visP l).2, 3] ≠ 0 := by
    unfold firstE firstE
    rcases visP_or l with h2 | ⟨h2, -⟩ <;> rw [h2] <;> decide
  refine ⟨?_, h3⟩
  unfold idotsI partE
  rw [if_neg h, if_neg h3]
theorem part_yes {l : List Nt} {i j : Nat} (h : i ≤ j) (h2 : j ≤ (visP l).1.length) : idotsI l i j = if (visP l).2 = 0 then ((((visP l).1.drop i).take (j - i)).map (·.1), 0) else ([], (visP l).2) := by
  unfold idotsI partE
  have hc : (0 : Int) ≤ (i : Int) ∧ (i : Int) ≤ (j : Int) ∧ (j : Int) ≤ ((visP l).1.length : Int) := ⟨by omega, by omega, by omega⟩
  have hf : firstE [(visP l).2, 0] = (visP l).2 := by
    unfold firstE firstE
    split
    · rename_i h; rw [h]; rfl
    · rfl
  rw [if_pos hc, hf]
  rfl
set_option maxRecDepth 100000 in
set_option maxHeartbeats 8000000 in
theorem idots_prog (l : List Nt) (i j : Int) (a : Option Addr) (c : Nat) (w : World) (hx : RowN w a l) (hlx : l.length ≤ 400000) :
    Calls Tryz.prog 49 #[.slice a l.length c, .int .i64 i, .int .i64 j] w fun e w' => ∃ v, e = .returned (.tuple #[v, .int .i64 (idotsI l i j).2]) ∧ OD w' w.heap.size ED v (idotsI l i j).1 ∧ Below w.heap.size w w' := by
  have HB := Lib.hid (Below.refl w.heap.size w)
  have HC := Lib.hid (visible_prog l a c w hx hlx)
  have HVl : Hid ((visP l).1.length ≤ 400000) := by have := visP_len l; show _ ≤ _; omega
  have HNo := Lib.hid (part_err (l := l) (i := i) (j := j))
  have HYe := Lib.hid (fun i j h h2 => part_yes (l := l) (i := i) (j := j) h h2)
  clear hx hlx
  by_cases hin : 0 ≤ i ∧ i ≤ j ∧ j ≤ ((visP l).1.length : Int)
  · obtain ⟨hi0, hi1, hi2⟩ := hin
    obtain ⟨m, rfl⟩ : ∃ m : Nat, i = (m : Int) := ⟨i.toNat, by omega⟩
    obtain ⟨n, rfl⟩ : ∃ n : Nat, j = (n : Int) := ⟨j.toNat, by omega⟩
    have hmn : m ≤ n := by omega
    have hnl : n ≤ (visP l).1.length := by omega
    have HE := Lib.hid (HYe.out m n hmn hnl)
    have hd0 : decide ((0 : Int) ≤ (m : Int)) = true := decide_eq_true hi0
    have hd1 : decide ((m : Int) ≤ (n : Int)) = true := decide_eq_true hi1
    have hd2 : decide ((n : Int) ≤ ((visP l).1.length : Int)) = true := decide_eq_true hi2
    clear HNo HYe
    generalize idotsI l (m : Int) (n : Int) = R at *
    generalize visP l = Q at *
    obtain ⟨V, z⟩ := Q
    simp only at HC HE HVl hd2 hnl hi2
    go_enter Tryz.func49, Tryz.ntmps49
    go_wp2_with fail
    refine HC.out.mono ?_
    rintro e w2 ⟨v2, rfl, ho, hb⟩
    obtain ⟨a2, c2, rfl, hr, -, hlc, -⟩ := ON.row ho
    have HW := Lib.hid hr
    have HLc := Lib.hid hlc
    replace HB := Lib.hid (bel_tr HB.out hb)
    clear ho hb hr HC hlc
    go_wp2_with fail
    refine (unless_yes 3 _).mono ?_
    rintro e w3 ⟨rfl, rfl⟩
    have hb := bel_box w3 (.cells ⟨[.int .i64 z, .int .i64 0]⟩ 29)
    replace HB := Lib.hid (bel_tr HB.out hb)
    replace HW := Lib.hid (HW.out.keep hb)
    have HR1 : Hid (G.RowI .i64 (w3.alloc (.cells ⟨[.int .i64 z, .int .i64 0]⟩ 29)) (some ⟨w3.heap.size, 0, none⟩) [z, 0]) := G.RowI.lit .i64 w3 _ rfl [z, 0] ⟨[.int .i64 z, .int .i64 0]⟩ _ rfl
    clear hb
    go_wp2_with fail
    refine (first_prog [z, 0] _ 0 2 _ HR1.out (by simp)).mono ?_
    rintro e w4 ⟨rfl, rfl⟩
    clear HR1
    generalize w3.alloc (.cells ⟨[.int .i64 z, .int .i64 0]⟩ 29) = w5 at *
    have hf : firstE [z, 0] = z := by
      unfold firstE firstE
      split
      · rename_i h; rw [h]; rfl
      · rfl
    rw [hf]
    clear hf
    by_cases hz : z = 0
    · subst hz
      have hT := HE.out
      rw [if_pos rfl] at hT
      clear HE
      subst hT
      have hnb : n ≤ 400000 := by have := HVl.out; omega
      have hsb : ((n - m : Nat) : Int) = (n : Int) - (m : Int) := by omega
      obtain ⟨w6, hmk, ho6, hb6⟩ := make_cap_d (n - m) (by omega) w5
      rw [hsb] at hmk
      have hcut := cut_midN a2 V.length c2 m n hmn hnl HLc.out
      have HXr := Lib.hid ((offN_row HW.out c2 m HLc.out (by omega)).take (n - m))
      have HXl : Hid (((V.drop m).take (n - m)).length = n - m) := by show _ = _; rw [List.length_take, List.length_drop]; omega
      have HO6 := Lib.hid ho6
      have HZ6 := Lib.hid hb6
      have hni : ((n : Int) - (m : Int)) ≤ 400000 := by omega
      have HBs := Lib.hid HB.out.size
      clear ho6 hb6 HW
      generalize hXX : (V.drop m).take (n - m) = X at *
      have HXe : Hid (X.map (·.1) = (((V.map (·.1)).drop m).take (n - m))) := by show _ = _; rw [← hXX, List.map_take, List.map_drop]
      clear hXX
      generalize offN a2 c2 m = aX at *
      obtain ⟨t, ht⟩ : ∃ t, t = n - m := ⟨_, rfl⟩
      rw [← ht] at hcut hsb HXl
      clear ht
      have hti : (t : Int) ≤ 400000 := by omega
      go_wp2_with fail
      go_loopw [11, 13, 48] (fun v _ i wr => ∃ k : Nat, k ≤ t ∧ i = .int .i64 (k : Int) ∧ Hid (Below w5.heap.size w5 wr) ∧ Hid (OD wr w5.heap.size ED v ((X.take k).map (·.1)))) (fun _ _ i _ => t - (intOf i).toNat)
      case atStart => exact ⟨0, Nat.zero_le _, rfl, HZ6, HO6⟩
      case round =>
        clear HO6
        obtain ⟨k, hk, rfl, HZ, HO⟩ := hrel
        by_cases hlt : k < t
        · have hi0 : (k : Int) < (t : Int) := by omega
          have hkX : k < X.length := by rw [HXl.out]; exact hlt
          obtain ⟨b1, o1, e1, hna⟩ := na_of (HXr.out.keep HZ.out) k hkX
          have HSt := Lib.hid (take_dots hkX)
          have HPk : Hid (((X.take k).map (·.1)).length ≤ 400000) := by show _ ≤ _; rw [List.length_map, List.length_take]; omega
          obtain ⟨q, hq⟩ : ∃ q, q = X[k] := ⟨_, rfl⟩
          rw [← hq] at hna HSt
          subst e1
          clear hq
          have hb0 := bel_box wr (.cells (nc q) 53)
          have HZ1 := Lib.hid (bel_tr HZ.out hb0)
          have HO1 := Lib.hid (HO.out.below hb0)
          clear hb0
          obtain ⟨n0, n1, n2, n3, n4, n5⟩ := hna
          obtain ⟨⟨q1, q2⟩, ⟨q3, q4⟩, q5, q6⟩ := q
          have hb2 := bel_box (wr.alloc (.cells (nc ((q1, q2), (q3, q4), q5, q6)) 53)) (.cells #[.int .i64 q1, .int .i64 q2] 25)
          have HO2 := Lib.hid (HO1.out.below hb2)
          have HZ2 := Lib.hid (bel_tr HZ1.out hb2)
          have hsz : (wr.alloc (.cells (nc ((q1, q2), (q3, q4), q5, q6)) 53)).heap.size = wr.heap.size + 1 := by simp
          have HLt : Hid (RowD ((wr.alloc (.cells (nc ((q1, q2), (q3, q4), q5, q6)) 53)).alloc (.cells #[.int .i64 q1, .int .i64 q2] 25)) (some ⟨wr.heap.size + 1, 0, none⟩) [(q1, q2)]) := by rw [← hsz]; exact RowD.lit _ [(q1, q2)] _ _ _ rfl
          clear hb2 hsz
          go_wp2_with (at_builtin; refine wpList_appD rfl _ _ _ rfl Tryz.underlying75 infoD _ _ rfl HO2.out (some ⟨wr.heap.size + 1, 0, none⟩) [(q1, q2)] 1 rfl HLt.out (fun h => by cases h) (by have := HPk.out; simp only [List.length_cons, List.length_nil]; omega) HZ2.out.size ?_)
          intro v7 w7 ho hg _
          have HO7 : Hid (OD w7 w5.heap.size ED v7 ((X.take (k + 1)).map (·.1))) := by show OD _ _ _ _ _; rw [HSt.out, List.map_take]; exact ho
          have HZ7 := Lib.hid (HZ2.out.grown hg HZ2.out.size (fun x hx => (HO2.out.lt x hx).1))
          clear ho hg n0 n1 n2 n3 n4 n5
          go_wp2_with fail
          refine ⟨⟨k + 1, by omega, by go_num, HZ7, HO7⟩, ?_⟩
          simp [intOf]; omega
        · obtain rfl : k = t := by omega
          have hend : ¬ (k : Int) < (k : Int) := by omega
          rw [List.take_of_length_le (by rw [HXl.out]; exact Nat.le_refl _)] at HO
          have HB9 := Lib.hid (bel_tr HB.out HZ.out)
          have HO9 := Lib.hid (HO.out.mono (fun x hx => Nat.le_trans HBs.out (HO.out.lt x hx).1))
          clear HO
          go_wp2_with fail
          go_ret2
          rw [HXe.out] at HO9
          exact ⟨_, rfl, HO9.out, HB9.out⟩
    · have hT := HE.out
      rw [if_neg hz] at hT
      clear HE
      subst hT
      go_wp2_with fail
      go_ret2
      exact ⟨_, rfl, OD.nil _ _ _, HB.out⟩
  · obtain ⟨hn1, hn2⟩ := HNo.out hin
    have HE := Lib.hid hn1
    clear HNo HYe hn1
    generalize idotsI l i j = R at *
    generalize visP l = Q at *
    obtain ⟨V, z⟩ := Q
    simp only at HC HE HVl hin hn2
    by_cases hi0 : 0 ≤ i
    · have hd0 : decide ((0 : Int) ≤ i) = true := decide_eq_true hi0
      by_cases hi1 : i ≤ j
      · have hd1 : decide (i ≤ j) = true := decide_eq_true hi1
        have hi2 : ¬ j ≤ (V.length : Int) := fun h => hin ⟨hi0, hi1, h⟩
        have hd2 : decide (j ≤ (V.length : Int)) = false := decide_eq_false hi2
        clear hin
        go_enter Tryz.func49, Tryz.ntmps49
        go_wp2_with fail
        refine HC.out.mono ?_
        rintro e w2 ⟨v2, rfl, ho, hb⟩
        obtain ⟨a2, c2, rfl, hr, -, hlc, -⟩ := ON.row ho
        have HW := Lib.hid hr
        have HLc := Lib.hid hlc
        replace HB := Lib.hid (bel_tr HB.out hb)
        clear ho hb hr HC hlc
        go_wp2_with fail
        refine (unless_no 3 _).mono ?_
        rintro e w3 ⟨rfl, rfl⟩
        have hb := bel_box w3 (.cells ⟨[.int .i64 z, .int .i64 3]⟩ 29)
        replace HB := Lib.hid (bel_tr HB.out hb)
        replace HW := Lib.hid (HW.out.keep hb)
        have HR1 : Hid (G.RowI .i64 (w3.alloc (.cells ⟨[.int .i64 z, .int .i64 3]⟩ 29)) (some ⟨w3.heap.size, 0, none⟩) [z, 3]) := G.RowI.lit .i64 w3 _ rfl [z, 3] ⟨[.int .i64 z, .int .i64 3]⟩ _ rfl
        clear hb
        go_wp2_with fail
        refine (first_prog [z, 3] _ 0 2 _ HR1.out (by simp)).mono ?_
        rintro e w4 ⟨rfl, rfl⟩
        clear HR1
        generalize w3.alloc (.cells ⟨[.int .i64 z, .int .i64 3]⟩ 29) = w5 at *
        generalize firstE [z, 3] = r at *
        go_wp2_with fail
        go_ret2
        exact ⟨_, by rw [HE.out]; rfl, by rw [HE.out]; exact OD.nil _ _ _, HB.out⟩
      · have hd1 : decide (i ≤ j) = false := decide_eq_false hi1
        clear hin
        go_enter Tryz.func49, Tryz.ntmps49
        go_wp2_with fail
        refine HC.out.mono ?_
        rintro e w2 ⟨v2, rfl, ho, hb⟩
        obtain ⟨a2, c2, rfl, hr, -, hlc, -⟩ := ON.row ho
        have HW := Lib.hid hr
        have HLc := Lib.hid hlc
        replace HB := Lib.hid (bel_tr HB.out hb)
        clear ho hb hr HC hlc
        go_wp2_with fail
        refine (unless_no 3 _).mono ?_
        rintro e w3 ⟨rfl, rfl⟩
        have hb := bel_box w3 (.cells ⟨[.int .i64 z, .int .i64 3]⟩ 29)
        replace HB := Lib.hid (bel_tr HB.out hb)
        replace HW := Lib.hid (HW.out.keep hb)
        have HR1 : Hid (G.RowI .i64 (w3.alloc (.cells ⟨[.int .i64 z, .int .i64 3]⟩ 29)) (some ⟨w3.heap.size, 0, none⟩) [z, 3]) := G.RowI.lit .i64 w3 _ rfl [z, 3] ⟨[.int .i64 z, .int .i64 3]⟩ _ rfl
        clear hb
        go_wp2_with fail
        refine (first_prog [z, 3] _ 0 2 _ HR1.out (by simp)).mono ?_
        rintro e w4 ⟨rfl, rfl⟩
        clear HR1
        generalize w3.alloc (.cells ⟨[.int .i64 z, .int .i64 3]⟩ 29) = w5 at *
        generalize firstE [z, 3] = r at *
        go_wp2_with fail
        go_ret2
        exact ⟨_, by rw [HE.out]; rfl, by rw [HE.out]; exact OD.nil _ _ _, HB.out⟩
    · have hd0 : decide ((0 : Int) ≤ i) = false := decide_eq_false hi0
      clear hin
      go_enter Tryz.func49, Tryz.ntmps49
      go_wp2_with fail
      refine HC.out.mono ?_
      rintro e w2 ⟨v2, rfl, ho, hb⟩
      obtain ⟨a2, c2, rfl, hr, -, hlc, -⟩ := ON.row ho
      have HW := Lib.hid hr
      have HLc := Lib.hid hlc
      replace HB := Lib.hid (bel_tr HB.out hb)
      clear ho hb hr HC hlc
      go_wp2_with fail
      refine (unless_no 3 _).mono ?_
      rintro e w3 ⟨rfl, rfl⟩
      have hb := bel_box w3 (.cells ⟨[.int .i64 z, .int .i64 3]⟩ 29)
      replace HB := Lib.hid (bel_tr HB.out hb)
      replace HW := Lib.hid (HW.out.keep hb)
      have HR1 : Hid (G.RowI .i64 (w3.alloc (.cells ⟨[.int .i64 z, .int .i64 3]⟩ 29)) (some ⟨w3.heap.size, 0, none⟩) [z, 3]) := G.RowI.lit .i64 w3 _ rfl [z, 3] ⟨[.int .i64 z, .int .i64 3]⟩ _ rfl
      clear hb
      go_wp2_with fail
      refine (first_prog [z, 3] _ 0 2 _ HR1.out (by simp)).mono ?_
      rintro e w4 ⟨rfl, rfl⟩
      clear HR1
      generalize w3.alloc (.cells ⟨[.int .i64 z, .int .i64 3]⟩ 29) = w5 at *
      generalize firstE [z, 3] = r at *
      go_wp2_with fail
      go_ret2
      exact ⟨_, by rw [HE.out]; rfl, by rw [HE.out]; exact OD.nil _ _ _, HB.out⟩
end Go.Proofs.YtkcbekebleodaaaGreat.Un
end

/-
  Layer 15: the reference's visible nodes, runes, and which states are well-formed.
-/
section
namespace Go.Proofs.YtkcbekebleodaaaGreat.Ed
set_option linter.unusedVariables false
open Go.RowKit V Go.Shelf D Nd Qs Wk Ix Jn
attribute [local irreducible] Sch.heldN Sch.stepV Sch.stepE

theorem alive_take {O : List Nt} {k : Nat} (h : k < O.length) : aliveL (O.take (k + 1)) = if deadN O[k] = true then aliveL (O.take k) else aliveL (O.take k) ++ [O[k]] := by
  unfold aliveL
  rw [List.take_succ_eq_append_getElem h, List.filter_append, List.filter_cons]
  split <;> rename_i h2 <;> simp_all
theorem vis_len {l : List Nt} (hv : validS l = true) : (visS l).length ≤ l.length := by
  have h := order_len hv
  unfold visS aliveL
  exact Nat.le_trans (List.length_filter_le _ _) h
set_option maxRecDepth 100000 in
set_option maxHeartbeats 8000000 in
theorem visible_ref (l : List Nt) (hv : validS l = true) (a : Option Addr) (c : Nat) (w : World) (hx : RowN w a l) (hlx : l.length ≤ 300000) :
    Calls Tryz.prog 38 #[.slice a l.length c] w fun e w' => ∃ v, e = .returned v ∧ ON w' w.heap.size EN v (visS l) ∧ Below w.heap.size w w' := by
  have HC := Lib.hid (order_ref l hv a c w hx hlx)
  have HOl : Hid ((orderS l).length ≤ 300000) := Nat.le_trans (order_len hv) hlx
  have HE : Hid (visS l = aliveL (orderS l)) := rfl
  clear hx hlx hv
  generalize orderS l = O at *
  generalize visS l = R at *
  go_enter Tryz.func38, Tryz.ntmps38
  go_wp2_with fail
  refine HC.out.mono ?_
  rintro e w2 ⟨v2, rfl, ho, hb⟩
  obtain ⟨a2, c2, rfl, hr2, -⟩ := ON.row ho
  have HR2 := Lib.hid hr2
  have HB2 := Lib.hid hb
  have hoi : (O.length : Int) ≤ 300000 := by have := HOl.out; omega
  clear ho hb hr2 HC
  go_wp2_with fail
  go_loopw [3, 5] (fun v i wr => ∃ k : Nat, k ≤ O.length ∧ i = .int .i64 (k : Int) ∧ Hid (Below w2.heap.size w2 wr) ∧ Hid (ON wr w2.heap.size EN v (aliveL (O.take k)))) (fun _ i _ => O.length - (intOf i).toNat)
  case atStart => exact ⟨0, Nat.zero_le _, rfl, Below.refl _ _, ON.nil _ _ _⟩
  case round =>
    obtain ⟨k, hk, rfl, HZ, HO⟩ := hrel
    by_cases hlt : k < O.length
    · have hi0 : (k : Int) < (O.length : Int) := by omega
      obtain ⟨b, o, rfl, hna⟩ := na_of (HR2.out.keep HZ.out) k hlt
      have hx0 := ixS b o O.length c2 k (k : Int) rfl hlt
      have HSt := Lib.hid (alive_take hlt)
      have HPl : Hid ((aliveL (O.take k)).length ≤ 300000) := by
        show _ ≤ _
        unfold aliveL
        have h1 := List.length_filter_le (fun n => !deadN n) (O.take k)
        rw [List.length_take] at h1
        have := HOl.out
        omega
      obtain ⟨q, hq⟩ : ∃ q, q = O[k] := ⟨_, rfl⟩
      rw [← hq] at hna HSt
      clear hq
      generalize aliveL (O.take k) = P at *
      obtain ⟨n0, n1, n2, n3, n4, n5⟩ := hna
      obtain ⟨⟨q1, q2⟩, ⟨q3, q4⟩, q5, q6⟩ := q
      by_cases hz : q6 = 0
      · have hq0 : (q6 != 0) = false := by simp [hz]
        have HSt2 : Hid (aliveL (O.take (k + 1)) = P) := by show _ = _; rw [HSt.out, if_pos (by unfold deadN; simp [hz])]
        clear hz HSt
        go_wp2_with fail
        go_roundw
        case rel => exact ⟨k + 1, by omega, by go_num, HZ, by rw [HSt2.out]; exact HO.out⟩
        case measure => simp [intOf]; omega
      · have hq0 : (q6 != 0) = true := by simp [hz]
        have HSt2 : Hid (aliveL (O.take (k + 1)) = P ++ [((q1, q2), (q3, q4), q5, q6)]) := by show _ = _; rw [HSt.out, if_neg (by unfold deadN; simp [hz])]
        clear hz HSt
        have hb3 := bel_box wr (.cells (nc ((q1, q2), (q3, q4), q5, q6)) 53)
        have HLt : Hid (RowN (wr.alloc (.cells (nc ((q1, q2), (q3, q4), q5, q6)) 53)) (some ⟨wr.heap.size, 0, none⟩) [((q1, q2), (q3, q4), q5, q6)]) := RowN.lit wr [((q1, q2), (q3, q4), q5, q6)] _ _ _ rfl
        have HZ3 := Lib.hid (HZ.out.trans (hb3.mono HZ.out.size))
        have HO3 := Lib.hid (HO.out.below hb3)
        clear hb3 HO HZ
        go_wp2_with (at_builtin; refine wpList_appN rfl _ _ _ rfl Tryz.underlying23 infoN _ P rfl HO3.out (some ⟨wr.heap.size, 0, none⟩) [((q1, q2), (q3, q4), q5, q6)] 1 1 rfl rfl HLt.out (fun h => by cases h) (by have := HPl.out; simp only [List.length_cons, List.length_nil]; omega) HZ3.out.size ?_)
        intro v5 w5 ho hg _
        have HO5 : Hid (ON w5 w2.heap.size EN v5 (aliveL (O.take (k + 1)))) := by rw [HSt2.out]; exact ho
        have HZ5 := Lib.hid (HZ3.out.grown hg HZ3.out.size (fun k hk => (HO3.out.lt k hk).1))
        clear ho hg HO3 HZ3 n0 n1 n2 n3 n4 n5
        go_wp2_with fail
        go_roundw
        case rel => exact ⟨k + 1, by omega, by go_num, HZ5, HO5⟩
        case measure => simp [intOf]; omega
    · obtain rfl : k = O.length := by omega
      have hend : ¬ (O.length : Int) < (O.length : Int) := by omega
      rw [List.take_length] at HO
      have HO4 : Hid (ON wr w.heap.size EN _ (aliveL O)) := HO.out.mono fun k hk => Nat.le_trans HB2.out.size (HO.out.lt k hk).1
      have HB4 := bel_tr HB2 HZ.out
      clear HO
      go_wp2_with fail
      go_ret
      rw [HE.out]
      exact ⟨_, rfl, HO4.out, HB4.out⟩
set_option maxRecDepth 100000 in
set_option maxHeartbeats 8000000 in
theorem runes_ref (l : List Nt) (hv : validS l = true) (a : Option Addr) (c : Nat) (w : World) (hx : RowN w a l) (hlx : l.length ≤ 300000) :
    Calls Tryz.prog 30 #[.slice a l.length c] w fun e w' => ∃ v, e = .returned v ∧ G.OI w' w.heap.size 21 .i32 v (runesS l) ∧ Below w.heap.size w w' := by
  have HC := Lib.hid (visible_ref l hv a c w hx hlx)
  have HVl : Hid ((visS l).length ≤ 300000) := Nat.le_trans (vis_len hv) hlx
  have HE : Hid (runesS l = (visS l).map fun n => n.2.2.2) := rfl
  clear hx hlx hv
  generalize visS l = V at *
  generalize runesS l = R at *
  go_enter Tryz.func30, Tryz.ntmps30
  go_wp2_with fail
  refine HC.out.mono ?_
  rintro e w2 ⟨v2, rfl, ho, hb⟩
  obtain ⟨a2, c2, rfl, hr2, -⟩ := ON.row ho
  have HW := Lib.hid hr2
  have HB2 := Lib.hid hb
  have hoi : (V.length : Int) ≤ 300000 := by have := HVl.out; omega
  clear ho hb hr2 HC
  go_wp2_with fail
  go_loopw [3, 5] (fun v i wr => ∃ k : Nat, k ≤ V.length ∧ i = .int .i64 (k : Int) ∧ Hid (Below w2.heap.size w2 wr) ∧ Hid (G.OI wr w2.heap.size 21 .i32 v ((V.take k).map fun n => n.2.2.2))) (fun _ i _ => V.length - (intOf i).toNat)
  case atStart => exact ⟨0, Nat.zero_le _, rfl, Below.refl _ _, G.OI.nil _ _ _ _⟩
  case round =>
    obtain ⟨k, hk, rfl, HZ, HO⟩ := hrel
    by_cases hlt : k < V.length
    · have hi0 : (k : Int) < (V.length : Int) := by omega
      obtain ⟨b1, o1, rfl, hna⟩ := na_of (HW.out.keep HZ.out) k hlt
      have hx0 := ixS b1 o1 V.length c2 k (k : Int) rfl hlt
      have HT := Lib.hid (Un.taken_succ hlt)
      have HKl : Hid (((V.take k).map fun n => n.2.2.2).length ≤ 400000) := by have := HVl.out; show _ ≤ _; rw [List.length_map, List.length_take]; omega
      obtain ⟨q, hq⟩ : ∃ q, q = V[k] := ⟨_, rfl⟩
      rw [← hq] at hna HT
      clear hq
      have hb2 := bel_box wr (.cells #[.int .i32 q.2.2.2] 21)
      have HZ2 := Lib.hid (HZ.out.trans (hb2.mono HZ.out.size))
      have HO2 := Lib.hid (HO.out.below hb2)
      have HBs : Hid (w2.heap.size ≤ (wr.alloc (.cells #[.int .i32 q.2.2.2] 21)).heap.size) := HZ2.out.size
      clear hb2
      generalize hL : ((V.take k).map fun n => n.2.2.2) = L at *
      generalize hL2 : ((V.take (k + 1)).map fun n => n.2.2.2) = L2 at *
      obtain ⟨n0, n1, n2, n3, n4, n5⟩ := hna
      obtain ⟨⟨q1, q2⟩, ⟨q3, q4⟩, q5, q6⟩ := q
      clear hL
      go_wp2_with (at_builtin; refine G.wpList_appI rfl _ _ 26 rfl Tryz.underlying26 Un.infoR _ L rfl HO2.out wr.heap.size 0 1 1 [q6] rfl rfl (G.RowI.lit .i32 _ _ (by simp) [q6] _ _ rfl) (by have := HKl.out; simp; omega) (by omega) HBs.out ?_)
      intro v' w' ho' hg' hgr'
      have HO7 : Hid (G.OI w' w2.heap.size 21 .i32 v' L2) := by show G.OI _ _ _ _ _ _; rw [HT.out]; exact ho'
      have HZ7 := Lib.hid (HZ2.out.grown hg' HZ2.out.size (fun x hx => (HO2.out.lt x hx).1))
      clear ho' hg' hgr' n0 n1 n2 n3 n4 n5
      go_wp2_with fail
      go_roundw
      case rel => exact ⟨k + 1, by omega, by go_num, HZ7, by rw [hL2]; exact HO7⟩
      case measure => simp [intOf]; omega
    · obtain rfl : k = V.length := by omega
      have hend : ¬ (V.length : Int) < (V.length : Int) := by omega
      rw [List.take_length] at HO
      have HB4 := bel_tr HB2 HZ.out
      have HO4 : Hid (G.OI wr w.heap.size 21 .i32 _ _) := HO.out.mono HB2.out.size
      clear HO
      go_wp2_with fail
      go_ret
      rw [HE.out]
      exact ⟨_, rfl, HO4.out, HB4.out⟩
end Go.Proofs.YtkcbekebleodaaaGreat.Ed
end

/-
  Layer 15: the reference's Well, Latest, Same of runes.
-/
section
namespace Go.Proofs.YtkcbekebleodaaaGreat.Ed
set_option linter.unusedVariables false
open Go.RowKit V Go.Shelf D Nd Qs Wk Ix Jn Fo
attribute [local irreducible] Sch.heldN Sch.stepV Sch.stepE

/-- Two nodes of one row. -/
def Pw (b o o2 : Nat) (p q : Nt) (w : World) : Prop := Na w b o p ∧ Na w b o2 q
section
variable {b o o2 : Nat} {p q : Nt}
theorem Pw.ltp : ∀ w, Pw b o o2 p q w → (Instr.loadAt 3 (.pointer (some ⟨b, o + 4, none⟩))).run Tryz.prog w = .ok (.int .i64 p.2.2.1) w := fun w h => by
  have h1 := h.1.2.2.2.2.1
  go_simp
theorem Pw.ltq : ∀ w, Pw b o o2 p q w → (Instr.loadAt 3 (.pointer (some ⟨b, o2 + 4, none⟩))).run Tryz.prog w = .ok (.int .i64 q.2.2.1) w := fun w h => by
  have h1 := h.2.2.2.2.2.1
  go_simp
end
theorem well_end {l : List Nt} (hv : validS l = true) (h : ∀ j (hj : j < l.length), okN l l[j] = true) : wellS l = true := by
  unfold wellS
  rw [hv, Bool.true_and, List.all_eq_true]
  intro x hx
  obtain ⟨j, hj, rfl⟩ := List.mem_iff_getElem.1 hx
  exact h j hj
theorem well_no {l : List Nt} {j : Nat} (hj : j < l.length) (h : okN l l[j] = false) : wellS l = false := by
  unfold wellS
  rw [Bool.and_eq_false_iff]
  right
  rw [← Bool.not_eq_true, List.all_eq_true]
  intro h2
  have := h2 _ (List.getElem_mem hj)
  rw [h] at this
  cases this
set_option maxRecDepth 100000 in
set_option maxHeartbeats 8000000 in
theorem well_ref (l : List Nt) (a : Option Addr) (c : Nat) (w : World) (hx : RowN w a l) (hlx : l.length ≤ 300000) :
    Calls Tryz.prog 35 #[.slice a l.length c] w fun e w' => e = .returned (.bool (wellS l)) ∧ Below w.heap.size w w' := by
  have HS := Lib.hid (fun w h => store_ref l a c w h (by omega))
  have HF := Lib.hid (fun d w h => find_ref l d a c w h (by omega))
  have HX := Lib.hid hx
  have hli : (l.length : Int) ≤ 300000 := by omega
  have HNo : Hid (validS l = false → wellS l = false) := fun h => by unfold wellS; rw [h]; rfl
  have HEnd : Hid (validS l = true → (∀ j (hj : j < l.length), okN l l[j] = true) → wellS l = true) := fun hv h => well_end hv h
  have HBad : Hid (∀ j (hj : j < l.length), okN l l[j] = false → wellS l = false) := fun j hj h => well_no hj h
  clear hx hlx
  generalize wellS l = R at *
  generalize validS l = vv at *
  go_enter Tryz.func35, Tryz.ntmps35
  go_wp2_with fail
  refine (HS.out _ HX.out).mono ?_
  rintro e w2 ⟨rfl, hb⟩
  have HB2 := Lib.hid hb
  clear hb HS
  rcases vv with _ | _
  · have HR : Hid (R = false) := HNo.out (by first | exact rfl | trivial)
    go_wp2_with fail
    go_ret
    exact ⟨by rw [HR.out]; rfl, HB2.out⟩
  · clear HNo
    go_wp2_with fail
    go_loopw [3, 4] (fun i _ wr => ∃ k : Nat, k ≤ l.length ∧ i = .int .i64 (k : Int) ∧ Hid (Below w.heap.size w wr) ∧ Hid (∀ j (hj : j < l.length), j < k → okN l l[j] = true)) (fun i _ _ => l.length - (intOf i).toNat)
    case atStart => exact ⟨0, Nat.zero_le _, rfl, HB2, fun j hj h => by omega⟩
    case round =>
      clear HB2
      obtain ⟨k, hk, rfl, HB, HV⟩ := hrel
      by_cases hlt : k < l.length
      · have hi0 : (k : Int) < (l.length : Int) := by omega
        obtain ⟨b, o, rfl, hna⟩ := na_of (HX.out.keep HB.out) k hlt
        have hx0 := ixS b o l.length c k (k : Int) rfl hlt
        have HBd := Lib.hid (HBad.out k hlt)
        have HVn : Hid (okN l l[k] = true → ∀ j (hj : j < l.length), j < k + 1 → okN l l[j] = true) := fun h j hj hjk => by
          by_cases e : j = k
          · subst e; exact h
          · exact HV.out j hj (by omega)
        obtain ⟨q, hq⟩ : ∃ q, q = l[k] := ⟨_, rfl⟩
        have HOk : Hid (okN l q = (rootR q.2.1 || (match atS l q.2.1 with | none => false | some p => decide (p.2.2.1 < q.2.2.1)))) := rfl
        rw [← hq] at hna HBd HVn
        have HQ := Lib.hid hq
        clear hq
        have HNa := Lib.hid hna
        have HIx := Lib.hid (idx_eq (l := l) (d := q.2.1))
        have HFq := Lib.hid (HF.out q.2.1)
        have heq := fun w => eql_dot q.2.1 (0, 0) w
        have hrt : rootR q.2.1 = decide (q.2.1 = (0, 0)) := by rw [Bool.eq_iff_iff, root_iff, decide_eq_true_eq]
        rw [hrt] at HOk
        clear hrt
        obtain ⟨n0, n1, n2, n3, n4, n5⟩ := hna
        generalize okN l q = z at *
        generalize decide (q.2.1 = (0, 0)) = t at *
        generalize hat : atS l q.2.1 = A at *
        clear hat
        generalize idxS l q.2.1 = r at *
        obtain ⟨⟨q1, q2⟩, ⟨q3, q4⟩, q5, q6⟩ := q
        rcases t with _ | _
        · go_wp2_with fail
          refine (HFq.out _ (HX.out.keep HB.out)).mono ?_
          rintro e w3 ⟨rfl, hb⟩
          have HB3 := bel_tr HB hb
          have HNa3 := Lib.hid (HNa.out.keep hb)
          clear hb HFq HNa n0 n1 n2 n3 n4 n5
          have hd := (Below.refl w3.heap.size w3).drew
          replace HB3 := bel_tr HB3 hd
          replace HNa3 := Lib.hid (HNa3.out.keep hd)
          clear hd
          rcases HIx.out with ⟨rfl, rfl⟩ | ⟨k2, hk2, rfl, rfl⟩
          · have HR : Hid (R = false) := HBd.out (by rw [HOk.out]; rfl)
            have hneg : decide ((-1 : Int) < 0) = true := rfl
            go_wp2_with fail
            refine Sch.wp_region_tn (fun _ => True) (.val 0 (.val 1 (.val 2 (.val 3 (.val 4 (.val 5 (.val 6 (.val 7 (.val 8 (.val 9 (.val 10 (.val 11 (.val 12 (.val 13 (.val 14 .done))))))))))))))) (by kernel_rfl) (by kernel_rfl) trivial ?_
            repeat (first
              | (refine Sch.tn_q rfl rfl rfl (fun K hK => ?_); go_big_quiet_op; (first | refine hK _ ?_ | refine ⟨_, fun _ _ => rfl, hK _ ?_⟩); clear hK K)
              | (refine Sch.tn_chk _ _ _ rfl rfl rfl rfl rfl ?_; simp only [Act.put, List.setIfInBounds_toArray, List.set_cons_zero, List.set_cons_succ]))
            repeat (first
              | (refine Sch.tn_q rfl rfl rfl (fun K hK => ?_); go_big_quiet_op; (first | refine hK _ ?_ | refine ⟨_, fun _ _ => rfl, hK _ ?_⟩); clear hK K)
              | (refine Sch.tn_chk _ _ _ rfl rfl rfl rfl rfl ?_; simp only [Act.put, List.setIfInBounds_toArray, List.set_cons_zero, List.set_cons_succ])
              | (refine Sch.tn_s _ rfl rfl rfl ?_; simp only [Act.put, List.setIfInBounds_toArray, List.set_cons_zero, List.set_cons_succ])
              | (refine Sch.tn_se _ rfl rfl rfl ?_; simp only [Act.put, List.setIfInBounds_toArray, List.set_cons_zero, List.set_cons_succ]))
            refine Sch.tn_n ?_
            go_wp2_with fail
            go_ret
            exact ⟨by rw [HR.out]; rfl, HB3.out⟩
          · have hnn : ¬ ((k2 : Int) < 0) := by omega
            have hdn : decide ((k2 : Int) < 0) = false := decide_eq_false hnn
            have hx2 := ixS b o l.length c k2 (k2 : Int) rfl hk2
            obtain ⟨b9, o9, e9, h9⟩ := na_of (HX.out.keep HB3.out) k2 hk2
            cases e9
            obtain ⟨p, hp⟩ : ∃ p, p = l[k2] := ⟨_, rfl⟩
            rw [← hp] at h9 HOk
            clear hp
            have HP : Hid (Pw b (o + k2 * 6) (o + k * 6) p ((q1, q2), (q3, q4), q5, q6) w3.drew) := ⟨h9, HNa3.out⟩
            clear h9 HNa3 HQ HIx
            by_cases hlt2 : p.2.2.1 < q5
            · have hge : decide (p.2.2.1 ≥ q5) = false := decide_eq_false (by omega)
              have HV2 : Hid (∀ j (hj : j < l.length), j < k + 1 → okN l l[j] = true) := HVn.out (by rw [HOk.out]; simp [hlt2])
              have hge2 : ¬ (q5 ≤ p.2.2.1) := by omega
              clear HVn HBd hlt2
              go_wp2_with fail
              refine Sch.wp_region_tn (Pw b (o + k2 * 6) (o + k * 6) p ((q1, q2), (q3, q4), q5, q6)) (.val 0 (.val 1 (.val 2 (.val 3 (.val 4 (.val 5 (.val 6 (.val 7 (.val 8 (.val 9 (.val 10 (.val 11 (.val 12 (.val 13 (.val 14 .done))))))))))))))) (by kernel_rfl) (by kernel_rfl) HP.out ?_
              repeat (first
                | (refine Sch.tn_q rfl rfl rfl (fun K hK => ?_); go_big_quiet_op; (first | refine hK _ ?_ | refine ⟨_, fun _ _ => rfl, hK _ ?_⟩); clear hK K)
                | (refine Sch.tn_chk _ _ _ rfl rfl rfl rfl rfl ?_; simp only [Act.put, List.setIfInBounds_toArray, List.set_cons_zero, List.set_cons_succ])
                | (refine Sch.tn_load _ _ _ _ _ rfl rfl rfl rfl (by first | exact Pw.ltp | exact Pw.ltq) rfl ?_; simp only [Act.put, List.setIfInBounds_toArray, List.set_cons_zero, List.set_cons_succ]))
              repeat (first
                | (refine Sch.tn_q rfl rfl rfl (fun K hK => ?_); go_big_quiet_op; (first | refine hK _ ?_ | refine ⟨_, fun _ _ => rfl, hK _ ?_⟩); clear hK K)
                | (refine Sch.tn_chk _ _ _ rfl rfl rfl rfl rfl ?_; simp only [Act.put, List.setIfInBounds_toArray, List.set_cons_zero, List.set_cons_succ])
                | (refine Sch.tn_load _ _ _ _ _ rfl rfl rfl rfl (by first | exact Pw.ltp | exact Pw.ltq) rfl ?_; simp only [Act.put, List.setIfInBounds_toArray, List.set_cons_zero, List.set_cons_succ])
                | (refine Sch.tn_s _ rfl rfl rfl ?_; simp only [Act.put, List.setIfInBounds_toArray, List.set_cons_zero, List.set_cons_succ])
                | (refine Sch.tn_se _ rfl rfl rfl ?_; simp only [Act.put, List.setIfInBounds_toArray, List.set_cons_zero, List.set_cons_succ]))
              refine Sch.tn_n ?_
              go_wp2_with fail
              go_roundw
              case rel => exact ⟨k + 1, by omega, by go_num, HB3, HV2⟩
              case measure => simp [intOf]; omega
            · have hge : decide (p.2.2.1 ≥ q5) = true := decide_eq_true (by omega)
              have HR : Hid (R = false) := HBd.out (by rw [HOk.out]; simp; omega)
              have hge2 : q5 ≤ p.2.2.1 := by omega
              clear HVn HBd hlt2
              go_wp2_with fail
              refine Sch.wp_region_tn (Pw b (o + k2 * 6) (o + k * 6) p ((q1, q2), (q3, q4), q5, q6)) (.val 0 (.val 1 (.val 2 (.val 3 (.val 4 (.val 5 (.val 6 (.val 7 (.val 8 (.val 9 (.val 10 (.val 11 (.val 12 (.val 13 (.val 14 .done))))))))))))))) (by kernel_rfl) (by kernel_rfl) HP.out ?_
              repeat (first
                | (refine Sch.tn_q rfl rfl rfl (fun K hK => ?_); go_big_quiet_op; (first | refine hK _ ?_ | refine ⟨_, fun _ _ => rfl, hK _ ?_⟩); clear hK K)
                | (refine Sch.tn_chk _ _ _ rfl rfl rfl rfl rfl ?_; simp only [Act.put, List.setIfInBounds_toArray, List.set_cons_zero, List.set_cons_succ])
                | (refine Sch.tn_load _ _ _ _ _ rfl rfl rfl rfl (by first | exact Pw.ltp | exact Pw.ltq) rfl ?_; simp only [Act.put, List.setIfInBounds_toArray, List.set_cons_zero, List.set_cons_succ]))
              repeat (first
                | (refine Sch.tn_q rfl rfl rfl (fun K hK => ?_); go_big_quiet_op; (first | refine hK _ ?_ | refine ⟨_, fun _ _ => rfl, hK _ ?_⟩); clear hK K)
                | (refine Sch.tn_chk _ _ _ rfl rfl rfl rfl rfl ?_; simp only [Act.put, List.setIfInBounds_toArray, List.set_cons_zero, List.set_cons_succ])
                | (refine Sch.tn_load _ _ _ _ _ rfl rfl rfl rfl (by first | exact Pw.ltp | exact Pw.ltq) rfl ?_; simp only [Act.put, List.setIfInBounds_toArray, List.set_cons_zero, List.set_cons_succ])
                | (refine Sch.tn_s _ rfl rfl rfl ?_; simp only [Act.put, List.setIfInBounds_toArray, List.set_cons_zero, List.set_cons_succ])
                | (refine Sch.tn_se _ rfl rfl rfl ?_; simp only [Act.put, List.setIfInBounds_toArray, List.set_cons_zero, List.set_cons_succ]))
              refine Sch.tn_n ?_
              go_wp2_with fail
              go_ret
              exact ⟨by rw [HR.out]; rfl, HB3.out⟩
        · have HV2 : Hid (∀ j (hj : j < l.length), j < k + 1 → okN l l[j] = true) := HVn.out (by rw [HOk.out]; rfl)
          go_wp2_with fail
          go_roundw
          case rel => exact ⟨k + 1, by omega, by go_num, HB, HV2⟩
          case measure => simp [intOf]; omega
      · obtain rfl : k = l.length := by omega
        have hend : ¬ (l.length : Int) < (l.length : Int) := by omega
        have HR : Hid (R = true) := HEnd.out (by first | exact rfl | trivial) fun j hj => HV.out j hj hj
        go_wp2_with fail
        go_ret
        exact ⟨by rw [HR.out]; rfl, HB.out⟩
theorem late_eq (l : List Nt) : (validS l = true ∧ lateP l = timeS l) ∨ (validS l = false ∧ lateP l = 0) := by
  unfold lateP
  rcases validS l with _ | _
  · exact .inr ⟨rfl, rfl⟩
  · exact .inl ⟨rfl, rfl⟩
set_option maxRecDepth 100000 in
set_option maxHeartbeats 8000000 in
theorem latest_ref (l : List Nt) (a : Option Addr) (c : Nat) (w : World) (hx : RowN w a l) (hlx : l.length ≤ 300000) :
    Calls Tryz.prog 24 #[.slice a l.length c] w fun e w' => e = .returned (.int .i64 (lateP l)) ∧ Below w.heap.size w w' := by
  have HS := Lib.hid (fun w h => store_ref l a c w h (by omega))
  have HX := Lib.hid hx
  have hli : (l.length : Int) ≤ 300000 := by omega
  have HE := Lib.hid (late_eq l)
  clear hx hlx
  generalize lateP l = R at *
  generalize validS l = vv at *
  go_enter Tryz.func24, Tryz.ntmps24
  go_wp2_with fail
  go_loopw [3, 4] (fun m i wr => ∃ k : Nat, k ≤ l.length ∧ (vv = true ∨ k = 0) ∧ i = .int .i64 (k : Int) ∧ (∃ t : Int, m = .int .i64 t ∧ Hid (t = timeS (l.take k))) ∧ Hid (Below w.heap.size w wr)) (fun _ i _ => l.length - (intOf i).toNat)
  case atStart => exact ⟨0, Nat.zero_le _, .inr rfl, rfl, ⟨0, rfl, rfl⟩, Below.refl _ _⟩
  case round =>
    obtain ⟨k, hk, hvk, rfl, ⟨t, rfl, HT⟩, hh⟩ := hrel
    have HVk := Lib.hid hvk
    clear hvk
    by_cases hlt : k < l.length
    · have hi0 : (k : Int) < (l.length : Int) := by omega
      have hg : decide ((k : Int) < (l.length : Int)) = true := decide_eq_true hi0
      rcases vv with _ | _
      · have HR : Hid (R = 0) := by
          rcases HE.out with ⟨h, -⟩ | ⟨-, h⟩
          · cases h
          · exact h
        have HT0 : Hid (t = 0) := by
          rcases HVk.out with h | h
          · cases h
          · subst h; exact HT.out
        go_wp2_with fail
        refine (HS.out _ (HX.out.keep hh.out)).mono ?_
        rintro e w2 ⟨rfl, hb⟩
        have HB2 := bel_tr hh hb
        clear hb
        go_wp2_with fail
        go_ret
        exact ⟨by rw [HR.out, HT0.out]; rfl, HB2.out⟩
      · have HSt : Hid (timeS (l.take (k + 1)) = if timeS (l.take k) < l[k].2.2.1 then l[k].2.2.1 else timeS (l.take k)) := by
          show _ = _
          unfold timeS
          rw [foldl_take _ _ _ _ hlt]
        go_wp2_with fail
        refine (HS.out _ (HX.out.keep hh.out)).mono ?_
        rintro e w2 ⟨rfl, hb⟩
        have HB2 := bel_tr hh hb
        clear hb hh
        obtain ⟨b1, o1, rfl, hna⟩ := na_of (HX.out.keep HB2.out) k hlt
        have hx0 := ixS b1 o1 l.length c k (k : Int) rfl hlt
        obtain ⟨q, hq⟩ : ∃ q, q = l[k] := ⟨_, rfl⟩
        rw [← hq] at hna HSt
        clear hq
        rw [← HT.out] at HSt
        obtain ⟨n0, n1, n2, n3, n4, n5⟩ := hna
        obtain ⟨⟨q1, q2⟩, ⟨q3, q4⟩, q5, q6⟩ := q
        simp only at HSt
        go_wp2_with fail
        clear n0 n1 n2 n3 n4 n5
        go_roundw
        case rel => exact ⟨k + 1, by omega, .inl (by first | rfl | trivial), by go_num, ⟨max t q5, rfl, by show _ = _; rw [HSt.out]; split <;> omega⟩, HB2⟩
        case measure => simp [intOf]; omega
    · obtain rfl : k = l.length := by omega
      have hend : ¬ (l.length : Int) < (l.length : Int) := by omega
      have hg : decide ((l.length : Int) < (l.length : Int)) = false := decide_eq_false hend
      rw [List.take_length] at HT
      have HR : Hid (R = t) := by
        rcases HE.out with ⟨h, h2⟩ | ⟨h, h2⟩
        · show _ = _; rw [h2]; exact HT.out.symm
        · rcases HVk.out with h3 | h3
          · rw [h] at h3; cases h3
          · have : l = [] := List.length_eq_zero_iff.1 h3
            show _ = _
            rw [h2, HT.out, this]; rfl
      go_wp2_with fail
      go_ret
      exact ⟨by rw [HR.out]; rfl, hh.out⟩
/-- Two runes at their places. -/
def Pr (b o b2 o2 : Nat) (p q : Int) (w : World) : Prop := w.cell? ⟨b, o, none⟩ = some (.int .i32 p) ∧ w.cell? ⟨b2, o2, none⟩ = some (.int .i32 q)
set_option maxRecDepth 100000 in
set_option maxHeartbeats 8000000 in
theorem sameR_ref (xs ys : List Int) (a b : Option Addr) (c d : Nat) (w : World) (hx : G.RowI .i32 w a xs) (hy : G.RowI .i32 w b ys) (hlx : xs.length ≤ 1000000) (hly : ys.length ≤ 1000000) :
    Calls Tryz.prog 29 #[.slice a xs.length c, .slice b ys.length d] w fun e w' => e = .returned (.bool (decide (xs = ys))) ∧ Below w.heap.size w w' := by
  have HX := Lib.hid hx
  have HY := Lib.hid hy
  have hxi : (xs.length : Int) ≤ 1000000 := by omega
  have hyi : (ys.length : Int) ≤ 1000000 := by omega
  clear hx hy hlx hly
  by_cases hn : xs.length = ys.length
  · have hne : ((xs.length : Int) != (ys.length : Int)) = false := by simp [hn]
    have HEnd : Hid ((∀ j (h1 : j < xs.length) (h2 : j < ys.length), xs[j] = ys[j]) → decide (xs = ys) = true) := fun h => decide_eq_true (List.ext_getElem hn fun j h1 h2 => h j h1 h2)
    have HNo : Hid (∀ j (h1 : j < xs.length) (h2 : j < ys.length), xs[j] ≠ ys[j] → decide (xs = ys) = false) := fun j h1 h2 h => decide_eq_false fun e => h (by subst e; rfl)
    have HN := Lib.hid hn
    clear hn
    generalize decide (xs = ys) = R at *
    go_enter Tryz.func29, Tryz.ntmps29
    go_wp2_with fail
    go_loopw [5] (fun i wr => ∃ k : Nat, k ≤ xs.length ∧ i = .int .i64 (k : Int) ∧ Hid (Below w.heap.size w wr) ∧ Hid (∀ j (h1 : j < xs.length) (h2 : j < ys.length), j < k → xs[j] = ys[j])) (fun i _ => xs.length - (intOf i).toNat)
    case atStart => exact ⟨0, Nat.zero_le _, rfl, Below.refl _ _, fun j h1 h2 h => by omega⟩
    case round =>
      obtain ⟨k, hk, rfl, HB, HV⟩ := hrel
      by_cases hlt : k < xs.length
      · have hi0 : (k : Int) < (xs.length : Int) := by omega
        have hlt2 : k < ys.length := by have := HN.out; omega
        have hi1 : (k : Int) < (ys.length : Int) := by omega
        have hd := (Below.refl wr.heap.size wr).drew
        have HBd := bel_tr HB hd
        obtain ⟨b1, o1, rfl, c1⟩ := rowI_at (HX.out.keep HBd.out (Nat.le_refl _)) k hlt
        obtain ⟨b2, o2, rfl, c2⟩ := rowI_at (HY.out.keep HBd.out (Nat.le_refl _)) k hlt2
        have HBad := Lib.hid (HNo.out k hlt hlt2)
        have HVn : Hid (xs[k] = ys[k] → ∀ j (h1 : j < xs.length) (h2 : j < ys.length), j < k + 1 → xs[j] = ys[j]) := fun h j h1 h2 hj => by
          by_cases e : j = k
          · subst e; exact h
          · exact HV.out j h1 h2 (by omega)
        clear hd HNo
        generalize xs[k] = p at *
        generalize ys[k] = q at *
        have HP : Hid (Pr b1 (o1 + k) b2 (o2 + k) p q wr.drew) := ⟨c1, c2⟩
        have l1 : ∀ w, Pr b1 (o1 + k) b2 (o2 + k) p q w → (Instr.loadAt 21 (.pointer (some ⟨b1, o1 + k, none⟩))).run Tryz.prog w = .ok (.int .i32 p) w := fun w h => by have h1 := h.1; go_simp
        have l2 : ∀ w, Pr b1 (o1 + k) b2 (o2 + k) p q w → (Instr.loadAt 21 (.pointer (some ⟨b2, o2 + k, none⟩))).run Tryz.prog w = .ok (.int .i32 q) w := fun w h => by have h1 := h.2; go_simp
        have HL1 := Lib.hid l1
        have HL2 := Lib.hid l2
        clear l1 l2 c1 c2
        by_cases hpq : p = q
        · have HV2 := Lib.hid (HVn.out hpq)
          have hb : (p != q) = false := by simp [hpq]
          clear hpq HVn HBad
          go_wp2_with fail
          refine Sch.wp_region_tn (Pr b1 (o1 + k) b2 (o2 + k) p q) (.val 0 (.val 1 (.val 2 (.val 3 (.val 4 (.val 5 (.val 6 (.val 7 (.val 8 .done))))))))) (by kernel_rfl) (by kernel_rfl) HP.out ?_
          repeat (first
            | (refine Sch.tn_q rfl rfl rfl (fun K hK => ?_); go_big_quiet_op; (first | refine hK _ ?_ | refine ⟨_, fun _ _ => rfl, hK _ ?_⟩); clear hK K)
            | (refine Sch.tn_chk _ _ _ rfl rfl rfl rfl rfl ?_; simp only [Act.put, List.setIfInBounds_toArray, List.set_cons_zero, List.set_cons_succ])
            | (refine Sch.tn_load _ _ _ _ _ rfl rfl rfl rfl (by first | exact HL1.out | exact HL2.out) rfl ?_; simp only [Act.put, List.setIfInBounds_toArray, List.set_cons_zero, List.set_cons_succ]))
          refine Sch.tn_n ?_
          go_wp2_with fail
          go_roundw
          case rel => exact ⟨k + 1, by omega, by go_num, HBd, HV2⟩
          case measure => simp [intOf]; omega
        · have HR := Lib.hid (HBad.out hpq)
          have hb : (p != q) = true := by simp [hpq]
          clear hpq HVn HBad
          go_wp2_with fail
          refine Sch.wp_region_tn (Pr b1 (o1 + k) b2 (o2 + k) p q) (.val 0 (.val 1 (.val 2 (.val 3 (.val 4 (.val 5 (.val 6 (.val 7 (.val 8 .done))))))))) (by kernel_rfl) (by kernel_rfl) HP.out ?_
          repeat (first
            | (refine Sch.tn_q rfl rfl rfl (fun K hK => ?_); go_big_quiet_op; (first | refine hK _ ?_ | refine ⟨_, fun _ _ => rfl, hK _ ?_⟩); clear hK K)
            | (refine Sch.tn_chk _ _ _ rfl rfl rfl rfl rfl ?_; simp only [Act.put, List.setIfInBounds_toArray, List.set_cons_zero, List.set_cons_succ])
            | (refine Sch.tn_load _ _ _ _ _ rfl rfl rfl rfl (by first | exact HL1.out | exact HL2.out) rfl ?_; simp only [Act.put, List.setIfInBounds_toArray, List.set_cons_zero, List.set_cons_succ]))
          refine Sch.tn_n ?_
          go_wp2_with fail
          go_ret
          exact ⟨by rw [HR.out]; rfl, HBd.out⟩
      · obtain rfl : k = xs.length := by omega
        have hend : ¬ (xs.length : Int) < (xs.length : Int) := by omega
        have HR : Hid (R = true) := HEnd.out fun j h1 h2 => HV.out j h1 h2 h1
        go_wp2_with fail
        go_ret
        exact ⟨by rw [HR.out]; rfl, HB.out⟩
  · have hne : ((xs.length : Int) != (ys.length : Int)) = true := by rw [bne_iff_ne]; omega
    have HR : Hid (decide (xs = ys) = false) := decide_eq_false fun e => hn (by rw [e])
    clear hn
    generalize decide (xs = ys) = R at *
    go_enter Tryz.func29, Tryz.ntmps29
    go_wp2_with fail
    go_ret
    exact ⟨by rw [HR.out]; rfl, Below.refl _ _⟩
end Go.Proofs.YtkcbekebleodaaaGreat.Ed
end

/-
  Layer 15: what package edit asks of the library, and its small functions.
-/
section
namespace Go.Proofs.YtkcbekebleodaaaGreat.Ed
set_option linter.unusedVariables false
open Go.RowKit V Go.Shelf Go.Sort D Nd Qs Wk Ix Jn Fo
attribute [local irreducible] Sch.heldN Sch.stepV Sch.stepE

theorem unlessE (b : Bool) (z : Int) (w : World) : Calls Tryz.prog 42 #[.bool b, .int .i64 z] w fun e w' => e = .returned (.int .i64 (if b = true then 0 else z)) ∧ w' = w := by
  cases b
  · go_enter Tryz.func42, Tryz.ntmps42
    go_wp2_with fail
    go_ret
    exact ⟨rfl, rfl⟩
  · go_enter Tryz.func42, Tryz.ntmps42
    go_wp2_with fail
    go_ret
    exact ⟨rfl, rfl⟩
set_option maxRecDepth 100000 in
set_option maxHeartbeats 1000000 in
theorem or_any (es : List Int) (b o c : Nat) (w : World) (hx : G.RowI .i64 w (some ⟨b, o, none⟩) es) (hlx : es.length ≤ 1000) :
    Calls Tryz.prog 64 #[.slice (some ⟨b, o, none⟩) es.length c] w fun e w' => e = .returned (.int .i64 (Un.firstE es)) ∧ w' = w := by
  have HX := Lib.hid hx
  have hli : (es.length : Int) ≤ 1000 := by omega
  clear hx hlx
  go_enter Tryz.func64, Tryz.ntmps64
  go_wp2_with fail
  go_loopw [5, 8] (fun _ i wr => ∃ k : Nat, k ≤ es.length ∧ i = .int .i64 (k : Int) ∧ wr = w ∧ Hid (Un.firstE es = Un.firstE (es.drop k))) (fun _ i _ => es.length - (intOf i).toNat)
  case atStart => exact ⟨0, Nat.zero_le _, rfl, rfl, by show _ = _; rw [List.drop_zero]⟩
  case round =>
    obtain ⟨k, hk, rfl, rfl, HF⟩ := hrel
    by_cases hlt : k < es.length
    · have hi0 : (k : Int) < (es.length : Int) := by omega
      have hc : wr.cell? ⟨b, o + k, none⟩ = some (.int .i64 es[k]) := by
        rcases HX.out with h | ⟨b', o', e, h⟩
        · rw [h] at hlt; exact absurd hlt (Nat.not_lt_zero _)
        · cases e; exact h k hlt
      have HF2 : Hid (Un.firstE es = if es[k] = 0 then Un.firstE (es.drop (k + 1)) else es[k]) := HF.out.trans (Un.firstE_drop hlt)
      clear HF
      generalize es[k] = q at *
      by_cases hq : q = 0
      · subst hq
        go_wp2_with fail
        go_roundw
        case rel => exact ⟨k + 1, by omega, by go_num, by first | rfl | trivial, by have := HF2.out; rwa [if_pos rfl] at this⟩
        case measure => simp [intOf]; omega
      · have hqb : (q != 0) = true := by rw [bne_iff_ne]; exact hq
        go_wp2_with fail
        go_ret
        exact ⟨by rw [HF2.out, if_neg hq]; rfl, rfl⟩
    · obtain rfl : k = es.length := by omega
      have hend : ¬ (es.length : Int) < (es.length : Int) := by omega
      have HF2 : Hid (Un.firstE es = 0) := HF.out.trans (by rw [List.drop_length]; rfl)
      go_wp2_with fail
      go_ret
      exact ⟨by rw [HF2.out]; rfl, rfl⟩
theorem firstE_any (es : List Int) (b o c n : Nat) (hn : n = es.length) (w : World) (hx : G.RowI .i64 w (some ⟨b, o, none⟩) es) (hlx : es.length ≤ 1000) :
    Calls Tryz.prog 41 #[.slice (some ⟨b, o, none⟩) n c] w fun e w' => e = .returned (.int .i64 (Un.firstE es)) ∧ w' = w := by
  subst hn
  have H := Lib.hid (or_any es b o c w hx hlx)
  clear hx hlx
  generalize Un.firstE es = r at *
  go_enter Tryz.func41, Tryz.ntmps41
  go_wp2_with fail
  refine H.out.mono ?_
  rintro e w2 ⟨rfl, rfl⟩
  go_wp2_with fail
  go_ret
  exact ⟨rfl, rfl⟩
theorem noRune_any (r : Int) (w : World) : Calls Tryz.prog 46 #[.int .i32 r] w fun e w' => e = .returned (.bool (!R.vld r)) ∧ w' = w := by
  have H := Lib.hid (R.valid_any r w)
  generalize R.vld r = v at *
  go_enter Tryz.func46, Tryz.ntmps46
  go_wp2_with fail
  refine H.out.mono ?_
  rintro e w2 ⟨rfl, rfl⟩
  go_wp2_with fail
  go_ret
  exact ⟨rfl, rfl⟩
theorem enters_noRune : ∀ args w, (callFunc 46 args).run Tryz.prog w = .ok (.enter 46 args) w := enters_of Tryz.func46 (by kernel_rfl) rfl
set_option maxRecDepth 100000 in
set_option maxHeartbeats 1000000 in
theorem indexR (l : List Int) (a : Option Addr) (c : Nat) (w : World) (hx : G.RowI .i32 w a l) (hlx : l.length ≤ 1000000) :
    Calls Tryz.prog 66 #[.slice a l.length c, .func (.func 46) #[] #[]] w fun e w' => ∃ z : Int, e = .returned (.int .i64 z) ∧ decide (0 ≤ z) = (!l.all R.vld) ∧ w' = w := by
  have HX := Lib.hid hx
  have hli : (l.length : Int) ≤ 1000000 := by omega
  have eg := enters_noRune
  clear hx hlx
  go_enter Tryz.func66, Tryz.ntmps66
  go_wp2_with fail
  go_loopw [5, 8] (fun _ i wr => ∃ k : Nat, k ≤ l.length ∧ i = .int .i64 (k : Int) ∧ wr = w ∧ Hid (∀ j (hj : j < l.length), j < k → R.vld l[j] = true)) (fun _ i _ => l.length - (intOf i).toNat)
  case atStart => exact ⟨0, Nat.zero_le _, rfl, rfl, fun j _ h => by omega⟩
  case round =>
    obtain ⟨k, hk, rfl, rfl, HV⟩ := hrel
    by_cases hlt : k < l.length
    · obtain ⟨b1, o1, rfl, hc⟩ := rowI_at HX.out k hlt
      have HQ := Lib.hid (noRune_any l[k] wr)
      have HVn : Hid (R.vld l[k] = true → ∀ j (hj : j < l.length), j < k + 1 → R.vld l[j] = true) := fun h j hj hjk => by
        by_cases e : j = k
        · subst e; exact h
        · exact HV.out j hj (by omega)
      have HBad : Hid (R.vld l[k] = false → (!l.all R.vld) = true) := fun h => by
        rw [Bool.not_eq_true', ← Bool.not_eq_true, List.all_eq_true]
        intro h2
        have := h2 _ (List.getElem_mem hlt)
        rw [h] at this
        cases this
      generalize l[k] = q at *
      have hi1 : (k : Int) < (l.length : Int) := by omega
      go_wp2_with fail
      refine HQ.out.mono ?_
      rintro e w3 ⟨rfl, rfl⟩
      rcases hv : R.vld q with _ | _
      · have HB := Lib.hid (HBad.out hv)
        clear HVn HBad hv
        go_wp2_with fail
        go_ret
        exact ⟨k, rfl, by rw [HB.out]; simp, rfl⟩
      · have HV2 := Lib.hid (HVn.out hv)
        clear HVn HBad hv
        go_wp2_with fail
        go_roundw
        case rel => exact ⟨k + 1, by omega, by go_num, by first | rfl | trivial, HV2⟩
        case measure => simp [intOf]; omega
    · obtain rfl : k = l.length := by omega
      have HN : Hid ((!l.all R.vld) = false) := by
        show _ = _
        rw [Bool.not_eq_false', List.all_eq_true]
        intro x hx
        obtain ⟨j, hj, rfl⟩ := List.mem_iff_getElem.1 hx
        exact HV.out j hj hj
      have hend : ¬ (l.length : Int) < (l.length : Int) := by omega
      go_wp2_with fail
      go_ret
      exact ⟨-1, rfl, by rw [HN.out]; simp, rfl⟩
set_option maxRecDepth 100000 in
theorem containsR (l : List Int) (a : Option Addr) (c : Nat) (w : World) (hx : G.RowI .i32 w a l) (hlx : l.length ≤ 1000000) :
    Calls Tryz.prog 45 #[.slice a l.length c, .func (.func 46) #[] #[]] w fun e w' => e = .returned (.bool (!l.all R.vld)) ∧ w' = w := by
  have HI := Lib.hid (indexR l a c w hx hlx)
  clear hx hlx
  generalize (!l.all R.vld) = q at *
  go_enter Tryz.func45, Tryz.ntmps45
  go_wp2_with fail
  refine HI.out.mono ?_
  rintro e w2 ⟨z, rfl, hz, rfl⟩
  clear HI
  cases q
  · have hz2 : ¬ (0 : Int) ≤ z := by simpa using hz
    go_wp2_with fail
    go_ret
    exact ⟨by simp, rfl⟩
  · have hz2 : (0 : Int) ≤ z := by simpa using hz
    go_wp2_with fail
    go_ret
    exact ⟨by simp, rfl⟩
/-! ### The library at states -/
set_option maxRecDepth 100000 in
set_option maxHeartbeats 1000000 in
theorem indexS (l : List Nt) (a : Option Addr) (c g : Nat) (cb : Array Value) (p : Nt → Bool) (w : World) (eg : ∀ args w, (callFunc g args).run Tryz.prog w = .ok (.enter g args) w) (hp : AskN w g cb l p) (hx : RowN w a l) (hlx : l.length ≤ 1000000) :
    Calls Tryz.prog 86 #[.slice a l.length c, .func (.func g) #[] cb] w fun e w' => ∃ z : Int, e = .returned (.int .i64 z) ∧ decide (0 ≤ z) = l.any p ∧ Below w.heap.size w w' := by
  have HP := Lib.hid hp
  have HX := Lib.hid hx
  have hli : (l.length : Int) ≤ 1000000 := by omega
  clear hp hx hlx
  go_enter Tryz.func86, Tryz.ntmps86
  go_wp2_with fail
  go_loopw [5, 8] (fun _ i wr => ∃ k : Nat, k ≤ l.length ∧ i = .int .i64 (k : Int) ∧ Hid (Below w.heap.size w wr) ∧ Hid (∀ j (hj : j < l.length), j < k → p l[j] = false)) (fun _ i _ => l.length - (intOf i).toNat)
  case atStart => exact ⟨0, Nat.zero_le _, rfl, Below.refl _ _, fun j _ h => by omega⟩
  case round =>
    obtain ⟨k, hk, rfl, hh, HV⟩ := hrel
    by_cases hlt : k < l.length
    · obtain ⟨b1, o1, rfl, p0, p1, p2, p3, p4, p5⟩ := (HX.out.keep hh.out).get k hlt
      have HQ := Lib.hid (HP.out wr hh.out l[k] (List.getElem_mem hlt))
      have HT := Lib.hid (Qs.any_here (p := p) hlt)
      obtain ⟨q, hq⟩ : ∃ q, q = l[k] := ⟨_, rfl⟩
      rw [← hq] at p0 p1 p2 p3 p4 p5 HQ HT
      have HQe := Lib.hid hq
      have hi1 : (k : Int) < (l.length : Int) := by omega
      clear hq
      obtain ⟨⟨q1, q2⟩, ⟨q3, q4⟩, q5, q6⟩ := q
      go_wp2_with fail
      refine HQ.out.mono ?_
      rintro e w3 ⟨rfl, hb⟩
      have HB := bel_tr hh hb
      clear hb HQ
      rcases hpq : p ((q1, q2), (q3, q4), q5, q6) with _ | _
      · go_wp2_with fail
        go_roundw
        case rel =>
          refine ⟨k + 1, by omega, by go_num, HB, fun j hj hjk => ?_⟩
          by_cases hjk2 : j = k
          · subst hjk2; rw [← HQe.out]; exact hpq
          · exact HV.out j hj (by omega)
        case measure => simp [intOf]; omega
      · have hT := HT.out hpq
        go_wp2_with fail
        go_ret
        exact ⟨k, rfl, by rw [hT]; simp, HB.out⟩
    · obtain rfl : k = l.length := by omega
      have HN : Hid (l.any p = false) := Qs.any_away fun j hj => HV.out j hj hj
      have hend : ¬ (l.length : Int) < (l.length : Int) := by omega
      go_wp2_with fail
      go_ret
      exact ⟨-1, rfl, by rw [HN.out]; simp, hh.out⟩

set_option maxRecDepth 100000 in
theorem containsS (l : List Nt) (a : Option Addr) (c g : Nat) (cb : Array Value) (p : Nt → Bool) (w : World) (eg : ∀ args w, (callFunc g args).run Tryz.prog w = .ok (.enter g args) w) (hp : AskN w g cb l p) (hx : RowN w a l) (hlx : l.length ≤ 1000000) :
    Calls Tryz.prog 68 #[.slice a l.length c, .func (.func g) #[] cb] w fun e w' => e = .returned (.bool (l.any p)) ∧ Below w.heap.size w w' := by
  have HI := Lib.hid (indexS l a c g cb p w eg hp hx hlx)
  clear hp hx hlx
  generalize l.any p = q at *
  go_enter Tryz.func68, Tryz.ntmps68
  go_wp2_with fail
  refine HI.out.mono ?_
  rintro e w2 ⟨z, rfl, hz, hb⟩
  have HB := Lib.hid hb
  clear hb HI
  cases q
  · have hz2 : ¬ (0 : Int) ≤ z := by simpa using hz
    go_wp2_with fail
    go_ret
    exact ⟨by simp, HB.out⟩
  · have hz2 : (0 : Int) ≤ z := by simpa using hz
    go_wp2_with fail
    go_ret
    exact ⟨by simp, HB.out⟩

/-- Whether a node has one of as many dots as are counted from one on. -/
def takenB (d : Dt) (n : Int) (x : Nt) : Bool := decide (x.1.1 = d.1) && decide (d.2 ≤ x.1.2) && decide (x.1.2 < IntKind.i64.wrap (d.2 + n))
/-- The boxes of the dot and of the count. -/
def Tb (g c : Nat) (d : Dt) (n : Int) (w : World) : Prop := w.cell? ⟨g, 0, none⟩ = some (.int .i64 d.1) ∧ w.cell? ⟨g, 1, none⟩ = some (.int .i64 d.2) ∧ w.cell? ⟨c, 0, none⟩ = some (.int .i64 n)
theorem Tb.keep {g c : Nat} {d : Dt} {n : Int} {w w' : World} (h : Tb g c d n w) (hb : Below w.heap.size w w') : Tb g c d n w' :=
  ⟨(hb.cell (p := ⟨g, 0, none⟩) (lt_of_cell h.1)).trans h.1, (hb.cell (p := ⟨g, 1, none⟩) (lt_of_cell h.2.1)).trans h.2.1, (hb.cell (p := ⟨c, 0, none⟩) (lt_of_cell h.2.2)).trans h.2.2⟩
set_option maxRecDepth 100000 in
set_option maxHeartbeats 4000000 in
theorem taken1_any (d : Dt) (n : Int) (x : Nt) (g c : Nat) (w : World) (h : Tb g c d n w) :
    Calls Tryz.prog 69 #[nv x, .pointer (some ⟨g, 0, none⟩), .pointer (some ⟨c, 0, none⟩)] w fun e w' => e = .returned (.bool (takenB d n x)) ∧ Below w.heap.size w w' := by
  have HE : Hid (takenB d n x = (decide (x.1.1 = d.1) && decide (d.2 ≤ x.1.2) && decide (x.1.2 < IntKind.i64.wrap (d.2 + n)))) := rfl
  have HB := Lib.hid (bel_box w (.cells (nc x) 53))
  have HT := Lib.hid (h.keep HB.out)
  have HK := Lib.hid (Nb.new w x)
  clear h
  obtain ⟨d1, d2⟩ := d
  obtain ⟨⟨x1, x2⟩, ⟨x3, x4⟩, x5, x6⟩ := x
  simp only at HE
  generalize takenB (d1, d2) n ((x1, x2), (x3, x4), x5, x6) = r at *
  obtain ⟨s, hs⟩ : ∃ s, s = IntKind.i64.wrap (d2 + n) := ⟨_, rfl⟩
  rw [← hs] at HE
  have hs2 : IntKind.i64.wrap (d2 + n) = s := hs.symm
  clear hs
  by_cases h1 : x1 = d1
  · have h1b : (x1 == d1) = true := by rw [beq_iff_eq]; exact h1
    rw [decide_eq_true h1] at HE
    clear h1
    by_cases h2 : d2 ≤ x2
    · have h2b : decide (d2 ≤ x2) = true := decide_eq_true h2
      rw [h2b] at HE
      go_enter Tryz.func69, Tryz.ntmps69
      go_upto_region 1 with fail
      generalize w.alloc (.cells #[.int .i64 x1, .int .i64 x2, .int .i64 x3, .int .i64 x4, .int .i64 x5, .int .i32 x6] 53) = w1 at *
      obtain ⟨k0, k1, k2, k3, k4, k5⟩ := HK.out
      obtain ⟨t0, t1, t2⟩ := HT.out
      go_wp2_with fail
      go_ret
      exact ⟨by rw [HE.out]; rfl, HB.out⟩
    · have h2b : decide (d2 ≤ x2) = false := decide_eq_false h2
      rw [h2b] at HE
      go_enter Tryz.func69, Tryz.ntmps69
      go_upto_region 1 with fail
      generalize w.alloc (.cells #[.int .i64 x1, .int .i64 x2, .int .i64 x3, .int .i64 x4, .int .i64 x5, .int .i32 x6] 53) = w1 at *
      obtain ⟨k0, k1, k2, k3, k4, k5⟩ := HK.out
      obtain ⟨t0, t1, t2⟩ := HT.out
      go_wp2_with fail
      go_ret
      exact ⟨by rw [HE.out]; rfl, HB.out⟩
  · have h1b : (x1 == d1) = false := by simpa using h1
    rw [decide_eq_false h1] at HE
    clear h1
    go_enter Tryz.func69, Tryz.ntmps69
    go_upto_region 1 with fail
    generalize w.alloc (.cells #[.int .i64 x1, .int .i64 x2, .int .i64 x3, .int .i64 x4, .int .i64 x5, .int .i32 x6] 53) = w1 at *
    obtain ⟨k0, k1, k2, k3, k4, k5⟩ := HK.out
    obtain ⟨t0, t1, t2⟩ := HT.out
    go_wp2_with fail
    go_ret
    exact ⟨by rw [HE.out]; rfl, HB.out⟩
theorem enters_taken : ∀ args w, (callFunc 69 args).run Tryz.prog w = .ok (.enter 69 args) w := enters_of Tryz.func69 (by kernel_rfl) rfl
set_option maxRecDepth 100000 in
set_option maxHeartbeats 4000000 in
theorem taken_any (l : List Nt) (d : Dt) (n : Int) (a : Option Addr) (c : Nat) (w : World) (hx : RowN w a l) (hlx : l.length ≤ 1000000) :
    Calls Tryz.prog 47 #[.slice a l.length c, dv d, .int .i64 n] w fun e w' => e = .returned (.bool (l.any (takenB d n))) ∧ Below w.heap.size w w' := by
  have hb1 := bel_box w (.cells #[.int .i64 d.1, .int .i64 d.2] 25)
  have hb2 := bel_box (w.alloc (.cells #[.int .i64 d.1, .int .i64 d.2] 25)) (.cells #[.int .i64 n] 3)
  have HB : Hid (Below w.heap.size w ((w.alloc (.cells #[.int .i64 d.1, .int .i64 d.2] 25)).alloc (.cells #[.int .i64 n] 3))) := (bel_tr (Lib.hid hb1) hb2).out
  have HT : Hid (Tb w.heap.size (w.heap.size + 1) d n ((w.alloc (.cells #[.int .i64 d.1, .int .i64 d.2] 25)).alloc (.cells #[.int .i64 n] 3))) := by
    refine ⟨?_, ?_, ?_⟩ <;> go_simp
  have HX := Lib.hid (hx.keep HB.out)
  have HC := Lib.hid (fun w2 (hp : AskN w2 69 #[.pointer (some ⟨w.heap.size, 0, none⟩), .pointer (some ⟨w.heap.size + 1, 0, none⟩)] l (takenB d n)) h => containsS l a c 69 _ (takenB d n) w2 enters_taken hp h hlx)
  have HA : Hid (AskN ((w.alloc (.cells #[.int .i64 d.1, .int .i64 d.2] 25)).alloc (.cells #[.int .i64 n] 3)) 69 #[.pointer (some ⟨w.heap.size, 0, none⟩), .pointer (some ⟨w.heap.size + 1, 0, none⟩)] l (takenB d n)) := fun W hW x _ => taken1_any d n x _ _ W (HT.out.keep hW)
  clear hx hlx hb1 hb2
  obtain ⟨d1, d2⟩ := d
  generalize l.any (takenB (d1, d2) n) = R at *
  go_enter Tryz.func47, Tryz.ntmps47
  go_upto_region 1 with fail
  generalize (w.alloc (.cells #[.int .i64 d1, .int .i64 d2] 25)).alloc (.cells #[.int .i64 n] 3) = w2 at *
  go_wp2_with fail
  refine (HC.out _ HA.out HX.out).mono ?_
  rintro e w3 ⟨rfl, hb⟩
  replace HB := bel_tr HB hb
  clear hb
  go_wp2_with fail
  go_ret
  exact ⟨rfl, HB.out⟩
set_option maxRecDepth 100000 in
theorem latest_any (l : List Nt) (a : Option Addr) (c : Nat) (w : World) (hx : RowN w a l) (hlx : l.length ≤ 300000) :
    Calls Tryz.prog 23 #[.slice a l.length c] w fun e w' => e = .returned (.int .i64 (lateP l)) ∧ Below w.heap.size w w' := by
  have H := Lib.hid (time_prog l a c w hx hlx)
  have HE : Hid ((timeP l).1 = lateP l) := by
    show _ = _
    unfold timeP lateP
    split <;> rfl
  clear hx hlx
  generalize timeP l = R at *
  obtain ⟨r1, r2⟩ := R
  have e := HE.out
  simp only at e
  subst e
  go_enter Tryz.func23, Tryz.ntmps23
  go_wp2_with fail
  refine H.out.mono ?_
  rintro e w3 ⟨rfl, hb⟩
  have HB := Lib.hid hb
  clear hb H
  go_wp2_with fail
  go_ret
  exact ⟨rfl, HB.out⟩
end Go.Proofs.YtkcbekebleodaaaGreat.Ed
end

/-
  Layer 15: the reference's Replace: what is refused at once.
-/
section
namespace Go.Proofs.YtkcbekebleodaaaGreat.Ed
set_option linter.unusedVariables false
open Go.RowKit V Go.Shelf D Nd Qs Wk Ix Jn Fo
attribute [local irreducible] Sch.heldN Sch.stepV Sch.stepE

/-- A range that is not there. -/
def offR (l : List Nt) (i n : Int) : Prop := i < 0 ∨ ((visS l).length : Int) < i ∨ n < 0 ∨ ((visS l).length : Int) - i < n
theorem rep_arg {l : List Nt} {d : Dt} {i n : Int} {rs : List Int} (h : (wellS l && validR d) = false) : repP l d i n rs = ([], 2) := by unfold repP; rw [if_pos h]
theorem rep_off {l : List Nt} {d : Dt} {i n : Int} {rs : List Int} (h : wellS l = true) (h1 : validR d = true) (h2 : offR l i n) : repP l d i n rs = ([], 3) := by
  unfold repP; rw [if_neg (by rw [h, h1]; decide)]; exact if_pos h2
set_option maxRecDepth 100000 in
set_option maxHeartbeats 8000000 in
theorem replace_bad (l : List Nt) (d : Dt) (i n : Int) (rs : List Int) (a b : Option Addr) (c e : Nat) (w : World) (hx : RowN w a l) (hlx : l.length ≤ 300000)
    (hbad : (wellS l && validR d) = false ∨ offR l i n) :
    Calls Tryz.prog 12 #[.slice a l.length c, dv d, .int .i64 i, .int .i64 n, .slice b rs.length e] w fun e w' => e = .returned (.tuple #[.slice none 0 0, .int .i64 (repP l d i n rs).2]) ∧ (repP l d i n rs).1 = [] ∧ Below w.heap.size w w' := by
  have HW := Lib.hid (fun w h => well_ref l a c w h hlx)
  have HD := Lib.hid (fun w => isDot_ref d w)
  have HX := Lib.hid (hx.keep (bel_box w (.cells #[.int .i64 d.1, .int .i64 d.2] 25)))
  have HB := Lib.hid (bel_box w (.cells #[.int .i64 d.1, .int .i64 d.2] 25))
  have HK := Lib.hid (Un.bd_new w d)
  clear hx
  rcases hw : wellS l with _ | _
  · have HR : Hid (repP l d i n rs = ([], 2)) := rep_arg (by rw [hw]; rfl)
    rw [hw] at HW
    clear hw hbad
    generalize repP l d i n rs = R at *
    go_enter Tryz.func12, Tryz.ntmps12
    go_wp2_with fail
    generalize w.alloc (.cells #[.int .i64 d.1, .int .i64 d.2] 25) = w1 at *
    refine (HW.out _ HX.out).mono ?_
    rintro e w2 ⟨rfl, hb⟩
    have HB2 := bel_tr HB hb
    clear hb
    go_wp2_with fail
    go_ret2
    rw [HR.out]
    exact ⟨rfl, rfl, HB2.out⟩
  · rcases hd : validR d with _ | _
    · have HR : Hid (repP l d i n rs = ([], 2)) := rep_arg (by rw [hw, hd]; rfl)
      rw [hw] at HW
      rw [hd] at HD
      clear hw hbad hd
      generalize repP l d i n rs = R at *
      go_enter Tryz.func12, Tryz.ntmps12
      go_wp2_with fail
      generalize w.alloc (.cells #[.int .i64 d.1, .int .i64 d.2] 25) = w1 at *
      refine (HW.out _ HX.out).mono ?_
      rintro e w2 ⟨rfl, hb⟩
      have HB2 := bel_tr HB hb
      have HK2 := Lib.hid (HK.out.keep hb)
      clear hb
      have c0 := HK2.out.c0
      have c1 := HK2.out.c1
      go_wp2_with fail
      refine (HD.out _).mono ?_
      rintro e w3 ⟨rfl, hb⟩
      replace HB2 := bel_tr HB2 hb
      clear hb
      go_wp2_with fail
      go_ret2
      rw [HR.out]
      exact ⟨rfl, rfl, HB2.out⟩
    · have hoff : offR l i n := by
        rcases hbad with h | h
        · rw [hw, hd] at h; cases h
        · exact h
      have hv := well_valid hw
      have HR : Hid (repP l d i n rs = ([], 3)) := rep_off hw hd hoff
      have HV := Lib.hid (fun w h => visible_ref l hv a c w h hlx)
      have HVl : Hid ((visS l).length ≤ 300000) := Nat.le_trans (vis_len hv) hlx
      have HOf : Hid (i < 0 ∨ ((visS l).length : Int) < i ∨ n < 0 ∨ ((visS l).length : Int) - i < n) := hoff
      rw [hw] at HW
      rw [hd] at HD
      clear hw hbad hd hoff hv
      generalize repP l d i n rs = R at *
      generalize visS l = V at *
      go_enter Tryz.func12, Tryz.ntmps12
      go_wp2_with fail
      generalize w.alloc (.cells #[.int .i64 d.1, .int .i64 d.2] 25) = w1 at *
      refine (HW.out _ HX.out).mono ?_
      rintro e w2 ⟨rfl, hb⟩
      have HB2 := bel_tr HB hb
      have HK2 := Lib.hid (HK.out.keep hb)
      have HX2 := Lib.hid (HX.out.keep hb)
      clear hb
      have c0 := HK2.out.c0
      have c1 := HK2.out.c1
      go_wp2_with fail
      refine (HD.out _).mono ?_
      rintro e w3 ⟨rfl, hb⟩
      have HB3 := bel_tr HB2 hb
      have HX3 := Lib.hid (HX2.out.keep hb)
      clear hb HB2 HX2
      go_wp2_with fail
      refine (HV.out _ HX3.out).mono ?_
      rintro e w4 ⟨v4, rfl, ho, hb⟩
      have HB4 := bel_tr HB3 hb
      obtain ⟨a4, c4, rfl, -⟩ := ON.row ho
      clear hb HB3 HX3 ho
      have hvi : (V.length : Int) ≤ 300000 := by have := HVl.out; omega
      have hv0 : (0 : Int) ≤ (V.length : Int) := by omega
      by_cases h1 : i < 0
      · go_wp2_with fail
        go_ret2
        rw [HR.out]
        exact ⟨rfl, rfl, HB4.out⟩
      · by_cases h2 : (V.length : Int) < i
        · go_wp2_with fail
          go_ret2
          rw [HR.out]
          exact ⟨rfl, rfl, HB4.out⟩
        · by_cases h3 : n < 0
          · go_wp2_with fail
            go_ret2
            rw [HR.out]
            exact ⟨rfl, rfl, HB4.out⟩
          · have h4 : (V.length : Int) - i < n := by
              rcases HOf.out with h | h | h | h <;> omega
            have h5 : decide (n > (V.length : Int) - i) = true := decide_eq_true h4
            go_wp2_with fail
            go_ret2
            rw [HR.out]
            exact ⟨rfl, rfl, HB4.out⟩
end Go.Proofs.YtkcbekebleodaaaGreat.Ed
end

/-
  Layer 15: the reference's Replace, where the place is there.
-/
section
namespace Go.Proofs.YtkcbekebleodaaaGreat.Ed
set_option linter.unusedVariables false
open Go.RowKit V Go.Shelf D Nd Qs Wk Ix Jn Fo
attribute [local irreducible] Sch.heldN Sch.stepV Sch.stepE

/-! ### Plainly -/
theorem chain_get : ∀ (rs : List Int) (d p : Dt) (t : Int) (k : Nat) (hk : k < rs.length), (chainN d p t rs)[k]'(by rw [chain_len]; exact hk) = ((d.1, d.2 + (k : Int)), (if k = 0 then p else (d.1, d.2 + (k : Int) - 1)), t + (k : Int), rs[k])
  | [], _, _, _, k, hk => by simp at hk
  | r :: rs, d, p, t, 0, hk => by simp [chainN]
  | r :: rs, d, p, t, k + 1, hk => by
    have h := chain_get rs (d.1, d.2 + 1) d (t + 1) k (by simpa using hk)
    simp only [chainN, List.getElem_cons_succ]
    rw [h]
    refine Prod.ext ?_ (Prod.ext ?_ (Prod.ext ?_ rfl))
    · refine Prod.ext rfl ?_
      show d.2 + 1 + (k : Int) = d.2 + ((k + 1 : Nat) : Int)
      push_cast
      omega
    · show (if k = 0 then d else (d.1, d.2 + 1 + (k : Int) - 1)) = (if k + 1 = 0 then p else (d.1, d.2 + ((k + 1 : Nat) : Int) - 1))
      rw [if_neg (show ¬ k + 1 = 0 by omega)]
      by_cases h0 : k = 0
      · subst h0
        rw [if_pos rfl]
        refine Prod.ext rfl ?_
        show d.2 = d.2 + ((0 + 1 : Nat) : Int) - 1
        push_cast
        omega
      · rw [if_neg h0]
        refine Prod.ext rfl ?_
        show d.2 + 1 + (k : Int) - 1 = d.2 + ((k + 1 : Nat) : Int) - 1
        push_cast
        omega
    · show t + 1 + (k : Int) = t + ((k + 1 : Nat) : Int)
      push_cast
      omega
theorem kills_get {l : List Nt} {i n k : Nat} (hk : k < n) (hi : i + k < (visS l).length) : ∃ h : k < (killsS l i n).length, (killsS l i n)[k] = killN (visS l)[i + k] := by
  have h : k < (killsS l i n).length := by
    unfold killsS
    rw [List.length_map, List.length_take, List.length_drop]
    omega
  refine ⟨h, ?_⟩
  unfold killsS
  simp
theorem kills_len {l : List Nt} {i n : Nat} (hi : i + n ≤ (visS l).length) : (killsS l i n).length = n := by
  unfold killsS
  rw [List.length_map, List.length_take, List.length_drop]
  omega
theorem step_take {L : List Nt} {k : Nat} (h : k < L.length) : (L.take (k + 1)).foldl stepR [] = stepR ((L.take k).foldl stepR []) L[k] := foldl_take _ _ _ _ h
theorem step_fold_len (L : List Nt) : (L.foldl stepR []).length ≤ L.length := by
  have h := joinR_len L []
  rw [List.length_nil, Nat.zero_add] at h
  exact h
theorem joinR_one (o : List Nt) (n : Nt) : joinR o [n] = stepR o n := rfl
/-- The counters above. -/
theorem rep_long {l : List Nt} {d : Dt} {i n : Int} {rs : List Int} (h : (wellS l && validR d) = true) (h2 : ¬ offR l i n) (h3 : 10000 < rs.length ∨ 10000 < n) : repP l d i n rs = ([], 5) := by
  unfold repP
  rw [if_neg (by rw [h]; decide), if_neg (by exact h2), if_pos h3]
theorem rep_rune {l : List Nt} {d : Dt} {i n : Int} {rs : List Int} (h : (wellS l && validR d) = true) (h2 : ¬ offR l i n) (h3 : ¬ (10000 < rs.length ∨ 10000 < n)) (h4 : rs.all R.vld = false) : repP l d i n rs = ([], 13) := by
  unfold repP
  rw [if_neg (by rw [h]; decide), if_neg (by exact h2), if_neg h3, if_pos h4]
theorem rep_ex {l : List Nt} {d : Dt} {i n : Int} {rs : List Int} (h : (wellS l && validR d) = true) (h2 : ¬ offR l i n) (h3 : ¬ (10000 < rs.length ∨ 10000 < n)) (h4 : rs.all R.vld = true)
    (h5 : 4294967295 - d.2 + 1 < (rs.length : Int) ∨ 4611686018427387904 - timeS l < (rs.length : Int)) : repP l d i n rs = ([], 14) := by
  unfold repP
  rw [if_neg (by rw [h]; decide), if_neg (by exact h2), if_neg h3, if_neg (by rw [h4]; decide), if_pos h5]
theorem rep_busy {l : List Nt} {d : Dt} {i n : Int} {rs : List Int} (h : (wellS l && validR d) = true) (h2 : ¬ offR l i n) (h3 : ¬ (10000 < rs.length ∨ 10000 < n)) (h4 : rs.all R.vld = true)
    (h5 : ¬ (4294967295 - d.2 + 1 < (rs.length : Int) ∨ 4611686018427387904 - timeS l < (rs.length : Int))) {k : Nat} (hk : k < rs.length) (hb : (atS l (d.1, d.2 + (k : Int))).isSome = true) : repP l d i n rs = ([], 11) := by
  unfold repP
  rw [if_neg (by rw [h]; decide), if_neg (by exact h2), if_neg h3, if_neg (by rw [h4]; decide), if_neg h5, if_pos (by unfold busyS; rw [List.any_eq_true]; exact ⟨k, List.mem_range.2 hk, hb⟩)]
theorem rep_fine {l : List Nt} {d : Dt} {i n : Nat} {rs : List Int} (h : (wellS l && validR d) = true) (h2 : ¬ offR l (i : Int) (n : Int)) (h3 : ¬ (10000 < rs.length ∨ 10000 < (n : Int))) (h4 : rs.all R.vld = true)
    (h5 : ¬ (4294967295 - d.2 + 1 < (rs.length : Int) ∨ 4611686018427387904 - timeS l < (rs.length : Int))) (h6 : ∀ k : Nat, k < rs.length → atS l (d.1, d.2 + (k : Int)) = none) : repP l d (i : Int) (n : Int) rs = (((chainS l d i rs).foldl stepR ((killsS l i n).foldl stepR [])), 0) := by
  have hb : busyS l d rs.length = false := by
    unfold busyS
    rw [← Bool.not_eq_true, List.any_eq_true]
    rintro ⟨k, hk, e⟩
    rw [h6 k (List.mem_range.1 hk)] at e
    cases e
  obtain ⟨ok, e⟩ := rep_ok h h2 h3 h4 h5 hb
  rw [e]
  simp only [Int.toNat_natCast] at ok ⊢
  rw [← ok.ref, partsS, List.foldl_append]
end Go.Proofs.YtkcbekebleodaaaGreat.Ed
end
