/-
  Regions that draw their order, walked in one order of the prover's choosing: what yields one value in every world of a class is taken as soon as it may come up; all else must come up alone.
-/
import Derived.OrdersHeld
import Derived.Deep.Quiet
import Derived.KernelRfl
import Derived.RegionTactic
import Derived.BigQuiet
import Derived.Deep.RegionHeld3

section
namespace Go.Proofs.YtkcbekebleodaaaGreat.Sch
open Go
set_option linter.unusedVariables false

section
variable {P : Program} {ops : Array Oper} {Q : Exit → Act → World → Prop} {md : Region.Mode} {S : World → Prop}

/-- Operations that never enter a function and always yield a value. -/
def calm : Op → Bool
  | .move _ | .assign _ | .pick .. | .load .. | .binOp .. | .unOp .. | .convert .. | .slice .. | .fieldAddr .. | .field .. | .indexAddr .. | .index .. | .lookup .. | .extract .. | .build .. => true
  | .call c => match c.callee with | .builtin .len | .builtin .cap => true | _ => false
  | _ => false

theorem run_value {s : Sem Value} {w w' : World} {n : Next} (h : (do pure (Next.value (← s)) : Sem Next).run P w = .ok n w') : ∃ v, n = .value v := by
  rw [Sem.run_bind] at h
  generalize Sem.run P s w = r at h
  cases r with
  | ok v w1 =>
    simp [Result.andThen] at h
    exact ⟨v, h.1.symm⟩
  | halt x w1 => simp [Result.andThen] at h

theorem calm_value {o : Oper} {ρ : Operand → Value} {w w' : World} {n : Next} (hc : calm o.op = true) (h : (execOp ρ o).run P w = .ok n w') : ∃ v, n = .value v := by
  obtain ⟨dst, op, type, pos, after, guard⟩ := o
  cases op <;> simp only [calm, Bool.false_eq_true] at hc
  case move x =>
    have h' : Sem.run P (Sem.pure (Next.value (ρ x))) w = .ok n w' := h
    simp only [Sem.run, Result.ok.injEq] at h'
    exact ⟨_, h'.1.symm⟩
  case assign x =>
    have h' : Sem.run P (Sem.pure (Next.value (ρ x))) w = .ok n w' := h
    simp only [Sem.run, Result.ok.injEq] at h'
    exact ⟨_, h'.1.symm⟩
  case pick c x y =>
    exact run_value (s := do if ← asBool (ρ c) then pure (ρ x) else pure (ρ y)) (by
      rw [← h]
      simp only [execOp, Sem.run_bind]
      generalize Sem.run P (asBool (ρ c)) w = r
      cases r with
      | ok b w1 => cases b <;> rfl
      | halt _ _ => rfl)
  case call c =>
    obtain ⟨callee, args, at_⟩ := c
    cases callee <;> simp only [Bool.false_eq_true] at hc
    rename_i b
    cases b <;> simp only [Bool.false_eq_true] at hc
    · exact run_value (s := Builtin.cap_ at_ type (args.map ρ)) h
    · exact run_value (s := Builtin.len_ at_ type (args.map ρ)) h
  all_goals exact run_value h



theorem quiet_yields {o : Oper} {a : Act} {K : Act → Prop} (hc : calm o.op = true) (hw : Region.wanted o (yielded ops a.tmps) = true) (h : o.quiet P a S K) :
    ∃ v, YieldsIf P ops S o v a ∧ K (a.put o.dst v) := by
  obtain ⟨v, h1, h2⟩ := h
  refine ⟨v, .inl ⟨hw, fun w hS => ?_⟩, h2⟩
  have h3 := h1 w hS
  unfold Oper.quietAt at h3
  generalize hr : (execOp a.eval o).run P w = r at h3
  cases r with
  | ok n w' =>
    obtain ⟨u, rfl⟩ := calm_value hc hr
    simp only [Oper.quietUpon] at h3
    obtain ⟨rfl, rfl⟩ := h3
    rfl
  | halt x w' => simp only [Oper.quietUpon] at h3




/-! ### Orders that part in two -/
inductive Tr where
  | done
  | take (i : Nat) (r : Tr)
  | one (i : Nat) (r : Tr)
  | two (i : Nat) (r : Tr) (j : Nat) (s : Tr)
  | three (i : Nat) (r : Tr) (j : Nat) (s : Tr) (k : Nat) (u : Tr)
def Tr.dep : Tr → Nat
  | .done => 0
  | .take _ r => r.dep + 1
  | .one _ r => r.dep + 1
  | .two _ r _ _ => r.dep + 1
  | .three _ r _ _ _ _ => r.dep + 1
/-- One operation, and what is wished behind it. -/
def stepQ (P : Program) (ops : Array Oper) (S : World → Prop) (i : Nat) (K : Act → World → Prop) (a : Act) (w : World) : Prop :=
  match ops[i]? with
  | none => False
  | some o => if Region.wanted o (yielded ops a.tmps) = true then o.quiet P a S (fun a' => K a' w) else K (a.put o.dst undef) w
def stepE (P : Program) (ops : Array Oper) (Q : Exit → Act → World → Prop) (S : World → Prop) (i : Nat) (K : Act → World → Prop) (a : Act) (w : World) : Prop :=
  match ops[i]? with
  | none => False
  | some o => if Region.wanted o (yielded ops a.tmps) = true then o.wp P a w (fun a' w' => S w' ∧ K a' w') Q else K (a.put o.dst undef) w
def heldT (P : Program) (ops : Array Oper) (Q : Exit → Act → World → Prop) (S : World → Prop) : Tr → Act → World → Prop
  | .done, a, w => Q .normal a w
  | .take i r, a, w => stepQ P ops S i (heldT P ops Q S r) a w
  | .one i r, a, w => stepE P ops Q S i (heldT P ops Q S r) a w
  | .two i r j s, a, w => stepE P ops Q S i (heldT P ops Q S r) a w ∧ stepE P ops Q S j (heldT P ops Q S s) a w
  | .three i r j s k u, a, w => stepE P ops Q S i (heldT P ops Q S r) a w ∧ stepE P ops Q S j (heldT P ops Q S s) a w ∧ stepE P ops Q S k (heldT P ops Q S u) a w
def okT (md : Region.Mode) (ops : Array Oper) : Tr → Array Bool → Bool
  | .done, listed => decide (Region.ready md ops listed = [])
  | .take i r, listed => (match ops[i]? with | some o => calm o.op | none => false) && (Region.ready md ops listed).contains i && Region.free md ops listed i && okT md ops r (listed.setIfInBounds i true)
  | .one i r, listed => decide (Region.ready md ops listed = [i]) && okT md ops r (listed.setIfInBounds i true)
  | .two i r j s, listed => decide (Region.ready md ops listed = [i, j]) && decide (r.dep = s.dep) && okT md ops r (listed.setIfInBounds i true) && okT md ops s (listed.setIfInBounds j true)
  | .three i r j s k u, listed => decide (Region.ready md ops listed = [i, j, k]) && decide (r.dep = s.dep) && decide (r.dep = u.dep) && okT md ops r (listed.setIfInBounds i true) && okT md ops s (listed.setIfInBounds j true) && okT md ops u (listed.setIfInBounds k true)

theorem wpAnyH_of_heldT (hs : Region.noSelect ops = true) (hQ : ∀ c a d v w, Q (.panic c) (Act.put a d v) w → Q (.panic c) a w) :
    ∀ (t : Tr) (listed : Array Bool) (a : Act) (w : World), okT md ops t listed = true → S w → heldT P ops Q S t a w → wpAnyH P md ops Q S t.dep listed a w
  | .done, listed, a, w, hk, _, h => ⟨by simpa [okT] using hk, h⟩
  | .take i r, listed, a, w, hk, hS, h => by
    simp only [okT, Bool.and_eq_true] at hk
    obtain ⟨⟨⟨hc, hr⟩, hf⟩, hk'⟩ := hk
    unfold heldT stepQ at h
    rcases ho : ops[i]? with _ | o
    · simp only [ho] at hc
      cases hc
    · simp only [ho] at hc h
      by_cases hw : Region.wanted o (yielded ops a.tmps) = true
      · rw [if_pos hw] at h
        obtain ⟨v, hy, hn⟩ := quiet_yields hc hw h
        exact wpAnyH_take ho hs hf hr (fun c a w => hQ c a _ _ w) hy hS (wpAnyH_of_heldT hs hQ r _ _ w hk' hS hn)
      · rw [if_neg hw] at h
        exact wpAnyH_take ho hs hf hr (fun c a w => hQ c a _ _ w) (v := undef) (.inr ⟨by simpa using hw, rfl⟩) hS (wpAnyH_of_heldT hs hQ r _ _ w hk' hS h)
  | .one i r, listed, a, w, hk, hS, h => by
    simp only [okT, Bool.and_eq_true, decide_eq_true_eq] at hk
    obtain ⟨hr, hk'⟩ := hk
    unfold heldT stepE at h
    refine wpAnyH_all hr (by simp) fun j hj => ?_
    have hj' : j = i := by simpa using hj
    subst hj'
    rcases ho : ops[j]? with _ | o
    · simp only [ho] at h
    · simp only [ho] at h
      unfold wpOp
      simp only [ho]
      by_cases hw : Region.wanted o (yielded ops a.tmps) = true
      · rw [if_pos hw] at h
        rw [if_pos hw]
        exact .inl (Oper.wp_mono (fun a' w' ⟨hS', h'⟩ => ⟨hS', wpAnyH_of_heldT hs hQ r _ _ w' hk' hS' h'⟩) h)
      · rw [if_neg hw] at h
        rw [if_neg hw]
        exact ⟨hS, wpAnyH_of_heldT hs hQ r _ _ w hk' hS h⟩
  | .two i r k s, listed, a, w, hk, hS, h => by
    simp only [okT, Bool.and_eq_true, decide_eq_true_eq] at hk
    obtain ⟨⟨⟨hr, hd⟩, hk1⟩, hk2⟩ := hk
    unfold heldT stepE at h
    refine wpAnyH_all hr (by simp) fun j hj => ?_
    have hj' : j = i ∨ j = k := by simpa using hj
    rcases hj' with rfl | rfl
    · have h := h.1
      rcases ho : ops[j]? with _ | o
      · simp only [ho] at h
      · simp only [ho] at h
        unfold wpOp
        simp only [ho]
        by_cases hw : Region.wanted o (yielded ops a.tmps) = true
        · rw [if_pos hw] at h
          rw [if_pos hw]
          exact .inl (Oper.wp_mono (fun a' w' ⟨hS', h'⟩ => ⟨hS', wpAnyH_of_heldT hs hQ r _ _ w' hk1 hS' h'⟩) h)
        · rw [if_neg hw] at h
          rw [if_neg hw]
          exact ⟨hS, wpAnyH_of_heldT hs hQ r _ _ w hk1 hS h⟩
    · have h := h.2
      rcases ho : ops[j]? with _ | o
      · simp only [ho] at h
      · simp only [ho] at h
        unfold wpOp
        simp only [ho, hd]
        by_cases hw : Region.wanted o (yielded ops a.tmps) = true
        · rw [if_pos hw] at h
          rw [if_pos hw]
          exact .inl (Oper.wp_mono (fun a' w' ⟨hS', h'⟩ => ⟨hS', wpAnyH_of_heldT hs hQ s _ _ w' hk2 hS' h'⟩) h)
        · rw [if_neg hw] at h
          rw [if_neg hw]
          exact ⟨hS, wpAnyH_of_heldT hs hQ s _ _ w hk2 hS h⟩
  | .three i r k s m u, listed, a, w, hk, hS, h => by
    simp only [okT, Bool.and_eq_true, decide_eq_true_eq] at hk
    obtain ⟨⟨⟨⟨⟨hr, hd⟩, hd2⟩, hk1⟩, hk2⟩, hk3⟩ := hk
    unfold heldT stepE at h
    refine wpAnyH_all hr (by simp) fun x hx => ?_
    have hx' : x = i ∨ x = k ∨ x = m := by simpa using hx
    rcases hx' with rfl | rfl | rfl
    · have h := h.1
      rcases ho : ops[x]? with _ | o
      · simp only [ho] at h
      · simp only [ho] at h
        unfold wpOp
        simp only [ho]
        by_cases hw : Region.wanted o (yielded ops a.tmps) = true
        · rw [if_pos hw] at h
          rw [if_pos hw]
          exact .inl (Oper.wp_mono (fun a' w' ⟨hS', h'⟩ => ⟨hS', wpAnyH_of_heldT hs hQ r _ _ w' hk1 hS' h'⟩) h)
        · rw [if_neg hw] at h
          rw [if_neg hw]
          exact ⟨hS, wpAnyH_of_heldT hs hQ r _ _ w hk1 hS h⟩
    · have h := h.2.1
      rcases ho : ops[x]? with _ | o
      · simp only [ho] at h
      · simp only [ho] at h
        unfold wpOp
        simp only [ho, hd]
        by_cases hw : Region.wanted o (yielded ops a.tmps) = true
        · rw [if_pos hw] at h
          rw [if_pos hw]
          exact .inl (Oper.wp_mono (fun a' w' ⟨hS', h'⟩ => ⟨hS', wpAnyH_of_heldT hs hQ s _ _ w' hk2 hS' h'⟩) h)
        · rw [if_neg hw] at h
          rw [if_neg hw]
          exact ⟨hS, wpAnyH_of_heldT hs hQ s _ _ w hk2 hS h⟩
    · have h := h.2.2
      rcases ho : ops[x]? with _ | o
      · simp only [ho] at h
      · simp only [ho] at h
        unfold wpOp
        simp only [ho, hd2]
        by_cases hw : Region.wanted o (yielded ops a.tmps) = true
        · rw [if_pos hw] at h
          rw [if_pos hw]
          exact .inl (Oper.wp_mono (fun a' w' ⟨hS', h'⟩ => ⟨hS', wpAnyH_of_heldT hs hQ u _ _ w' hk3 hS' h'⟩) h)
        · rw [if_neg hw] at h
          rw [if_neg hw]
          exact ⟨hS, wpAnyH_of_heldT hs hQ u _ _ w hk3 hS h⟩

/-- The checks of a region and a tree of orders, as one Bool. -/
def okAllT (ops : Array Oper) (t : Tr) : Bool :=
  Region.noSelect ops && decide (t.dep = ops.size) && okT .any ops t (Array.replicate ops.size false)

theorem wp_region_tree {l : List Oper} (S : World → Prop) (t : Tr) {id : Nat} {a : Act} {w : World} (hm : P.follows .mixedOrders = true) (hk : okAllT l.toArray t = true)
    (hS : S w.drew) (h : heldT P l.toArray (NoPanic Q) S t a w.drew) : (Code.region id l.toArray true).wp P Q a w := by
  simp only [okAllT, Bool.and_eq_true, decide_eq_true_eq] at hk
  obtain ⟨⟨hs, hl⟩, hk'⟩ := hk
  have := wpAnyH_of_heldT (Q := NoPanic Q) hs (fun _ _ _ _ _ h => h) t _ a w.drew hk' hS h
  rw [hl] at this
  exact wp_region_noPanic (wp_region_held hm this)

/-- The operation at a place, by looking. -/
def nth : List Oper → Nat → Option Oper
  | [], _ => none
  | o :: _, 0 => some o
  | _ :: l, i + 1 => nth l i
theorem nth_at : ∀ (l : List Oper) (i : Nat), l.toArray[i]? = nth l i
  | [], i => by simp [nth]
  | o :: l, 0 => by simp [nth]
  | o :: l, i + 1 => by have := nth_at l i; simp only [List.getElem?_toArray, List.getElem?_cons_succ] at this ⊢; rw [this]; rfl

section
variable {l : List Oper} {i : Nat} {o : Oper} {q : Bool} {r : List (Nat × Bool)} {a : Act} {w : World}
end
section
variable {l : List Oper} {i j : Nat} {o o2 : Oper} {r s : Tr} {a : Act} {w : World}
theorem tree_q (ho : nth l i = some o) (hw : Region.wanted o (yielded l.toArray a.tmps) = true) (h : ∀ K : Act → Prop, (∀ a', heldT P l.toArray Q S r a' w → K a') → o.quiet P a S K) :
    heldT P l.toArray Q S (.take i r) a w := by
  unfold heldT stepQ
  simp only [nth_at, ho]
  rw [if_pos hw]
  exact h _ fun _ h => h
theorem tree_e (ho : nth l i = some o) (hw : Region.wanted o (yielded l.toArray a.tmps) = true) (h : ∀ K : Act → World → Prop, (∀ a' w', S w' → heldT P l.toArray Q S r a' w' → K a' w') → o.wp P a w K Q) :
    heldT P l.toArray Q S (.one i r) a w := by
  unfold heldT stepE
  simp only [nth_at, ho]
  rw [if_pos hw]
  exact h _ fun a' w' h1 h2 => ⟨h1, h2⟩
theorem tree_n (h : Q .normal a w) : heldT P l.toArray (NoPanic Q) S .done a w := NoPanic.normal h
end
end
end Go.Proofs.YtkcbekebleodaaaGreat.Sch
end

/-
  Regions that draw their order, walked by a tree of orders: an operation that yields one value in every world of a class (a load, a nil check at a pointer that is not nil, whatever is pure) is taken as soon as it may come up; of the others at most two may come up at once.
-/
section
namespace Go.Proofs.YtkcbekebleodaaaGreat.Sch
open Go
set_option linter.unusedVariables false

section
variable {P : Program} {ops : Array Oper} {Q : Exit → Act → World → Prop} {md : Region.Mode} {S : World → Prop}

inductive Tn where
  | done
  | val (i : Nat) (r : Tn)
  | one (i : Nat) (r : Tn)
  | two (i : Nat) (r : Tn) (j : Nat) (s : Tn)
def Tn.dep : Tn → Nat
  | .done => 0
  | .val _ r => r.dep + 1
  | .one _ r => r.dep + 1
  | .two _ r _ _ => r.dep + 1
def stepV (P : Program) (ops : Array Oper) (S : World → Prop) (i : Nat) (K : Act → World → Prop) (a : Act) (w : World) : Prop :=
  match ops[i]? with
  | none => False
  | some o => if Region.wanted o (yielded ops a.tmps) = true then ∃ v, (∀ w', S w' → (execOp a.eval o).run P w' = .ok (.value v) w') ∧ K (a.put o.dst v) w else K (a.put o.dst undef) w
def heldN (P : Program) (ops : Array Oper) (Q : Exit → Act → World → Prop) (S : World → Prop) : Tn → Act → World → Prop
  | .done, a, w => Q .normal a w
  | .val i r, a, w => stepV P ops S i (heldN P ops Q S r) a w
  | .one i r, a, w => stepE P ops Q S i (heldN P ops Q S r) a w
  | .two i r j s, a, w => stepE P ops Q S i (heldN P ops Q S r) a w ∧ stepE P ops Q S j (heldN P ops Q S s) a w
def okN (md : Region.Mode) (ops : Array Oper) : Tn → Array Bool → Bool
  | .done, listed => decide (Region.ready md ops listed = [])
  | .val i r, listed => (Region.ready md ops listed).contains i && Region.free md ops listed i && okN md ops r (listed.setIfInBounds i true)
  | .one i r, listed => decide (Region.ready md ops listed = [i]) && okN md ops r (listed.setIfInBounds i true)
  | .two i r j s, listed => decide (Region.ready md ops listed = [i, j]) && decide (r.dep = s.dep) && okN md ops r (listed.setIfInBounds i true) && okN md ops s (listed.setIfInBounds j true)

theorem wpOp_of_stepE {i : Nat} {K K' : Act → World → Prop} {a : Act} {w : World} (h : stepE P ops Q S i K a w) (hS : S w) (hK : ∀ a' w', S w' → K a' w' → K' a' w') : wpOp P ops Q i (fun a' w' => S w' ∧ K' a' w') a w := by
  unfold stepE at h
  rcases ho : ops[i]? with _ | o
  · simp only [ho] at h
  · simp only [ho] at h
    unfold wpOp
    simp only [ho]
    by_cases hw : Region.wanted o (yielded ops a.tmps) = true
    · rw [if_pos hw] at h
      rw [if_pos hw]
      exact .inl (Oper.wp_mono (fun a' w' ⟨hS', h'⟩ => ⟨hS', hK _ _ hS' h'⟩) h)
    · rw [if_neg hw] at h
      rw [if_neg hw]
      exact ⟨hS, hK _ _ hS h⟩

theorem wpAnyH_of_heldN (hs : Region.noSelect ops = true) (hQ : ∀ c a d v w, Q (.panic c) (Act.put a d v) w → Q (.panic c) a w) :
    ∀ (t : Tn) (listed : Array Bool) (a : Act) (w : World), okN md ops t listed = true → S w → heldN P ops Q S t a w → wpAnyH P md ops Q S t.dep listed a w
  | .done, listed, a, w, hk, _, h => ⟨by simpa [okN] using hk, h⟩
  | .val i r, listed, a, w, hk, hS, h => by
    simp only [okN, Bool.and_eq_true] at hk
    obtain ⟨⟨hr, hf⟩, hk'⟩ := hk
    unfold heldN stepV at h
    rcases ho : ops[i]? with _ | o
    · simp only [ho] at h
    · simp only [ho] at h
      by_cases hw : Region.wanted o (yielded ops a.tmps) = true
      · rw [if_pos hw] at h
        obtain ⟨v, hy, hn⟩ := h
        exact wpAnyH_take ho hs hf hr (fun c a w => hQ c a _ _ w) (.inl ⟨hw, hy⟩) hS (wpAnyH_of_heldN hs hQ r _ _ w hk' hS hn)
      · rw [if_neg hw] at h
        exact wpAnyH_take ho hs hf hr (fun c a w => hQ c a _ _ w) (v := undef) (.inr ⟨by simpa using hw, rfl⟩) hS (wpAnyH_of_heldN hs hQ r _ _ w hk' hS h)
  | .one i r, listed, a, w, hk, hS, h => by
    simp only [okN, Bool.and_eq_true, decide_eq_true_eq] at hk
    obtain ⟨hr, hk'⟩ := hk
    refine wpAnyH_all hr (by simp) fun j hj => ?_
    have hj' : j = i := by simpa using hj
    subst hj'
    exact wpOp_of_stepE h hS fun a' w' hS' h' => wpAnyH_of_heldN hs hQ r _ _ w' hk' hS' h'
  | .two i r k s, listed, a, w, hk, hS, h => by
    simp only [okN, Bool.and_eq_true, decide_eq_true_eq] at hk
    obtain ⟨⟨⟨hr, hd⟩, hk1⟩, hk2⟩ := hk
    refine wpAnyH_all hr (by simp) fun j hj => ?_
    have hj' : j = i ∨ j = k := by simpa using hj
    rcases hj' with rfl | rfl
    · exact wpOp_of_stepE h.1 hS fun a' w' hS' h' => wpAnyH_of_heldN hs hQ r _ _ w' hk1 hS' h'
    · rw [hd]
      exact wpOp_of_stepE h.2 hS fun a' w' hS' h' => wpAnyH_of_heldN hs hQ s _ _ w' hk2 hS' h'

/-- The checks of a region and a tree of orders, as one Bool. -/
def okAllN (ops : Array Oper) (t : Tn) : Bool :=
  Region.noSelect ops && decide (t.dep = ops.size) && okN .any ops t (Array.replicate ops.size false)
theorem wp_region_tn {l : List Oper} (S : World → Prop) (t : Tn) {id : Nat} {a : Act} {w : World} (hm : P.follows .mixedOrders = true) (hk : okAllN l.toArray t = true)
    (hS : S w.drew) (h : heldN P l.toArray (NoPanic Q) S t a w.drew) : (Code.region id l.toArray true).wp P Q a w := by
  simp only [okAllN, Bool.and_eq_true, decide_eq_true_eq] at hk
  obtain ⟨⟨hs, hl⟩, hk'⟩ := hk
  have := wpAnyH_of_heldN (Q := NoPanic Q) hs (fun _ _ _ _ _ h => h) t _ a w.drew hk' hS h
  rw [hl] at this
  exact wp_region_noPanic (wp_region_held hm this)

section
variable {l : List Oper} {i j : Nat} {o o2 : Oper} {r s : Tn} {a : Act} {w : World}
theorem tn_q (hc : (match nth l i with | some o => calm o.op | none => false) = true) (ho : nth l i = some o) (hw : Region.wanted o (yielded l.toArray a.tmps) = true) (h : ∀ K : Act → Prop, (∀ a', heldN P l.toArray Q S r a' w → K a') → o.quiet P a S K) :
    heldN P l.toArray Q S (.val i r) a w := by
  unfold heldN stepV
  simp only [nth_at, ho]
  rw [if_pos hw]
  rw [ho] at hc
  obtain ⟨v, h1, h2⟩ := h (fun a' => heldN P l.toArray Q S r a' w) fun _ h => h
  obtain ⟨u, hu, hK⟩ := quiet_yields (P := P) (ops := l.toArray) (S := S) hc hw (show o.quiet P a S (fun a' => heldN P l.toArray Q S r a' w) from ⟨v, h1, h2⟩)
  rcases hu with ⟨_, hu⟩ | ⟨hn, _⟩
  · exact ⟨u, hu, hK⟩
  · rw [hw] at hn; cases hn
theorem tn_s (a' : Act) (ho : nth l i = some o) (hw : Region.wanted o (yielded l.toArray a.tmps) = false) (he : a.put o.dst undef = a') (h : heldN P l.toArray Q S r a' w) :
    heldN P l.toArray Q S (.val i r) a w := by
  subst he
  unfold heldN stepV
  simp only [nth_at, ho]
  rw [if_neg (by simp [hw])]
  exact h
/-- A nil check at a pointer that is not nil. -/
theorem tn_chk (x : Operand) (ad : Addr) (a' : Act) (ho : nth l i = some o) (hop : o.op = .nilCheck x) (hw : Region.wanted o (yielded l.toArray a.tmps) = true) (hx : a.eval x = .pointer (some ad)) (he : a.put o.dst (.pointer (some ad)) = a')
    (h : heldN P l.toArray Q S r a' w) : heldN P l.toArray Q S (.val i r) a w := by
  subst he
  unfold heldN stepV
  simp only [nth_at, ho]
  rw [if_pos hw]
  refine ⟨_, fun w' _ => ?_, h⟩
  unfold execOp
  rw [hop]
  simp only [hx, Sem.run_pure]
/-- A load whose outcome the class gives. -/
theorem tn_load (t : TypeId) (x : Operand) (ad v : Value) (a' : Act) (ho : nth l i = some o) (hop : o.op = .load t x) (hw : Region.wanted o (yielded l.toArray a.tmps) = true) (hx : a.eval x = ad)
    (hr : ∀ w, S w → (Instr.loadAt t ad).run P w = .ok v w) (he : a.put o.dst v = a') (h : heldN P l.toArray Q S r a' w) : heldN P l.toArray Q S (.val i r) a w := by
  subst he
  subst hx
  unfold heldN stepV
  simp only [nth_at, ho]
  rw [if_pos hw]
  refine ⟨_, fun w' hS => ?_, h⟩
  unfold execOp
  rw [hop]
  simp only [Sem.run_bind, hr w' hS, Result.andThen_ok]
  rfl
theorem tn_e (ho : nth l i = some o) (hw : Region.wanted o (yielded l.toArray a.tmps) = true) (h : ∀ K : Act → World → Prop, (∀ a' w', S w' → heldN P l.toArray Q S r a' w' → K a' w') → o.wp P a w K Q) :
    heldN P l.toArray Q S (.one i r) a w := by
  unfold heldN stepE
  simp only [nth_at, ho]
  rw [if_pos hw]
  exact h _ fun a' w' h1 h2 => ⟨h1, h2⟩
theorem tn_se (a' : Act) (ho : nth l i = some o) (hw : Region.wanted o (yielded l.toArray a.tmps) = false) (he : a.put o.dst undef = a') (h : heldN P l.toArray Q S r a' w) :
    heldN P l.toArray Q S (.one i r) a w := by
  subst he
  unfold heldN stepE
  simp only [nth_at, ho]
  rw [if_neg (by simp [hw])]
  exact h
theorem tn_two (h1 : heldN P l.toArray Q S (.one i r) a w) (h2 : heldN P l.toArray Q S (.one j s) a w) : heldN P l.toArray Q S (.two i r j s) a w := ⟨h1, h2⟩
theorem tn_n (h : Q .normal a w) : heldN P l.toArray (NoPanic Q) S .done a w := NoPanic.normal h
end
end
end Go.Proofs.YtkcbekebleodaaaGreat.Sch
end
