/-
  Regions that draw their order, walked in one order of the prover's choosing: what yields one value in every world of a class is taken as soon as it may come up; all else must come up alone.
-/
import Derived.OrdersHeld
import Derived.Deep.Quiet
import Derived.KernelRfl
import Derived.RegionTactic
import Derived.BigQuiet
import Derived.Deep.RegionHeld3

section
namespace Go.Proofs.Ytfmlenhakejefaa.Sch
open Go
set_option linter.unusedVariables false

section
variable {P : Program} {ops : Array Oper} {Q : Exit → Act → World → Prop} {md : Region.Mode} {S : World → Prop}

/-- Operations that never enter a function and always yield a value. -/
def calm : Op → Bool
  | .move _ | .assign _ | .pick .. | .load .. | .binOp .. | .unOp .. | .convert .. | .slice .. | .fieldAddr .. | .field .. | .indexAddr .. | .index .. | .lookup .. | .extract .. | .build .. => true
  | .call c => match c.callee with | .builtin .len | .builtin .cap => true | _ => false
  | _ => false

theorem run_value {s : Sem Value} {w w' : World} {n : Next} (h : (do pure (Next.value (← s)) : Sem Next).run P w = .ok n w') : ∃ v, n = .value v := by
  rw [Sem.run_bind] at h
  generalize Sem.run P s w = r at h
  cases r with
  | ok v w1 =>
    simp [Result.andThen] at h
    exact ⟨v, h.1.symm⟩
  | halt x w1 => simp [Result.andThen] at h

theorem calm_value {o : Oper} {ρ : Operand → Value} {w w' : World} {n : Next} (hc : calm o.op = true) (h : (execOp ρ o).run P w = .ok n w') : ∃ v, n = .value v := by
  obtain ⟨dst, op, type, pos, after, guard⟩ := o
  cases op <;> simp only [calm, Bool.false_eq_true] at hc
  case move x =>
    have h' : Sem.run P (Sem.pure (Next.value (ρ x))) w = .ok n w' := h
    simp only [Sem.run, Result.ok.injEq] at h'
    exact ⟨_, h'.1.symm⟩
  case assign x =>
    have h' : Sem.run P (Sem.pure (Next.value (ρ x))) w = .ok n w' := h
    simp only [Sem.run, Result.ok.injEq] at h'
    exact ⟨_, h'.1.symm⟩
  case pick c x y =>
    exact run_value (s := do if ← asBool (ρ c) then pure (ρ x) else pure (ρ y)) (by
      rw [← h]
      simp only [execOp, Sem.run_bind]
      generalize Sem.run P (asBool (ρ c)) w = r
      cases r with
      | ok b w1 => cases b <;> rfl
      | halt _ _ => rfl)
  case call c =>
    obtain ⟨callee, args, at_⟩ := c
    cases callee <;> simp only [Bool.false_eq_true] at hc
    rename_i b
    cases b <;> simp only [Bool.false_eq_true] at hc
    · exact run_value (s := Builtin.cap_ at_ type (args.map ρ)) h
    · exact run_value (s := Builtin.len_ at_ type (args.map ρ)) h
  all_goals exact run_value h

/-- The walk of one order: of each operation its number, and whether it is taken in every world of the class. -/
def heldI (P : Program) (ops : Array Oper) (Q : Exit → Act → World → Prop) (S : World → Prop) : List (Nat × Bool) → Act → World → Prop
  | [], a, w => Q .normal a w
  | (i, q) :: r, a, w =>
    match ops[i]? with
    | none => False
    | some o =>
      if Region.wanted o (yielded ops a.tmps) = true then
        (if q = true then o.quiet P a S (fun a' => heldI P ops Q S r a' w) else o.wp P a w (fun a' w' => S w' ∧ heldI P ops Q S r a' w') Q)
      else heldI P ops Q S r (a.put o.dst undef) w

/-- The order is one that serves for all. -/
def okI (md : Region.Mode) (ops : Array Oper) : List (Nat × Bool) → Array Bool → Bool
  | [], listed => decide (Region.ready md ops listed = [])
  | (i, true) :: r, listed => (match ops[i]? with | some o => calm o.op | none => false) && (Region.ready md ops listed).contains i && Region.free md ops listed i && okI md ops r (listed.setIfInBounds i true)
  | (i, false) :: r, listed => decide (Region.ready md ops listed = [i]) && okI md ops r (listed.setIfInBounds i true)

theorem quiet_yields {o : Oper} {a : Act} {K : Act → Prop} (hc : calm o.op = true) (hw : Region.wanted o (yielded ops a.tmps) = true) (h : o.quiet P a S K) :
    ∃ v, YieldsIf P ops S o v a ∧ K (a.put o.dst v) := by
  obtain ⟨v, h1, h2⟩ := h
  refine ⟨v, .inl ⟨hw, fun w hS => ?_⟩, h2⟩
  have h3 := h1 w hS
  unfold Oper.quietAt at h3
  generalize hr : (execOp a.eval o).run P w = r at h3
  cases r with
  | ok n w' =>
    obtain ⟨u, rfl⟩ := calm_value hc hr
    simp only [Oper.quietUpon] at h3
    obtain ⟨rfl, rfl⟩ := h3
    rfl
  | halt x w' => simp only [Oper.quietUpon] at h3

theorem wpAnyH_of_heldI (hs : Region.noSelect ops = true) (hQ : ∀ c a d v w, Q (.panic c) (Act.put a d v) w → Q (.panic c) a w) :
    ∀ (l : List (Nat × Bool)) (listed : Array Bool) (a : Act) (w : World), okI md ops l listed = true → S w → heldI P ops Q S l a w → wpAnyH P md ops Q S l.length listed a w
  | [], listed, a, w, hk, _, h => ⟨by simpa [okI] using hk, h⟩
  | (i, true) :: r, listed, a, w, hk, hS, h => by
    simp only [okI, Bool.and_eq_true] at hk
    obtain ⟨⟨⟨hc, hr⟩, hf⟩, hk'⟩ := hk
    unfold heldI at h
    rcases ho : ops[i]? with _ | o
    · simp only [ho] at hc
      cases hc
    · simp only [ho] at hc h
      by_cases hw : Region.wanted o (yielded ops a.tmps) = true
      · rw [if_pos hw, if_pos trivial] at h
        obtain ⟨v, hy, hn⟩ := quiet_yields hc hw h
        exact wpAnyH_take ho hs hf hr (fun c a w => hQ c a _ _ w) hy hS (wpAnyH_of_heldI hs hQ r _ _ w hk' hS hn)
      · rw [if_neg hw] at h
        exact wpAnyH_take ho hs hf hr (fun c a w => hQ c a _ _ w) (v := undef) (.inr ⟨by simpa using hw, rfl⟩) hS (wpAnyH_of_heldI hs hQ r _ _ w hk' hS h)
  | (i, false) :: r, listed, a, w, hk, hS, h => by
    simp only [okI, Bool.and_eq_true, decide_eq_true_eq] at hk
    obtain ⟨hr, hk'⟩ := hk
    unfold heldI at h
    refine wpAnyH_all hr (by simp) fun j hj => ?_
    have hj' : j = i := by simpa using hj
    subst hj'
    rcases ho : ops[j]? with _ | o
    · simp only [ho] at h
    · simp only [ho] at h
      unfold wpOp
      simp only [ho]
      by_cases hw : Region.wanted o (yielded ops a.tmps) = true
      · rw [if_pos hw, if_neg (by simp)] at h
        rw [if_pos hw]
        exact .inl (Oper.wp_mono (fun a' w' ⟨hS', h'⟩ => ⟨hS', wpAnyH_of_heldI hs hQ r _ _ w' hk' hS' h'⟩) h)
      · rw [if_neg hw] at h
        rw [if_neg hw]
        exact ⟨hS, wpAnyH_of_heldI hs hQ r _ _ w hk' hS h⟩

/-- The checks of a region and an order, as one Bool. -/
def okAll (ops : Array Oper) (l : List (Nat × Bool)) : Bool :=
  Region.noSelect ops && decide (l.length = ops.size) && okI .any ops l (Array.replicate ops.size false)

theorem wp_region_sched {l : List Oper} (S : World → Prop) (r : List (Nat × Bool)) {id : Nat} {a : Act} {w : World} (hm : P.follows .mixedOrders = true) (hk : okAll l.toArray r = true)
    (hS : S w.drew) (h : heldI P l.toArray (NoPanic Q) S r a w.drew) : (Code.region id l.toArray true).wp P Q a w := by
  simp only [okAll, Bool.and_eq_true, decide_eq_true_eq] at hk
  obtain ⟨⟨hs, hl⟩, hk'⟩ := hk
  have := wpAnyH_of_heldI (Q := NoPanic Q) hs (fun _ _ _ _ _ h => h) r _ a w.drew hk' hS h
  rw [hl] at this
  exact wp_region_noPanic (wp_region_held hm this)

/-! ### Orders that part in two -/
inductive Tr where
  | done
  | take (i : Nat) (r : Tr)
  | one (i : Nat) (r : Tr)
  | two (i : Nat) (r : Tr) (j : Nat) (s : Tr)
  | three (i : Nat) (r : Tr) (j : Nat) (s : Tr) (k : Nat) (u : Tr)
def Tr.dep : Tr → Nat
  | .done => 0
  | .take _ r => r.dep + 1
  | .one _ r => r.dep + 1
  | .two _ r _ _ => r.dep + 1
  | .three _ r _ _ _ _ => r.dep + 1
/-- One operation, and what is wished behind it. -/
def stepQ (P : Program) (ops : Array Oper) (S : World → Prop) (i : Nat) (K : Act → World → Prop) (a : Act) (w : World) : Prop :=
  match ops[i]? with
  | none => False
  | some o => if Region.wanted o (yielded ops a.tmps) = true then o.quiet P a S (fun a' => K a' w) else K (a.put o.dst undef) w
def stepE (P : Program) (ops : Array Oper) (Q : Exit → Act → World → Prop) (S : World → Prop) (i : Nat) (K : Act → World → Prop) (a : Act) (w : World) : Prop :=
  match ops[i]? with
  | none => False
  | some o => if Region.wanted o (yielded ops a.tmps) = true then o.wp P a w (fun a' w' => S w' ∧ K a' w') Q else K (a.put o.dst undef) w
def heldT (P : Program) (ops : Array Oper) (Q : Exit → Act → World → Prop) (S : World → Prop) : Tr → Act → World → Prop
  | .done, a, w => Q .normal a w
  | .take i r, a, w => stepQ P ops S i (heldT P ops Q S r) a w
  | .one i r, a, w => stepE P ops Q S i (heldT P ops Q S r) a w
  | .two i r j s, a, w => stepE P ops Q S i (heldT P ops Q S r) a w ∧ stepE P ops Q S j (heldT P ops Q S s) a w
  | .three i r j s k u, a, w => stepE P ops Q S i (heldT P ops Q S r) a w ∧ stepE P ops Q S j (heldT P ops Q S s) a w ∧ stepE P ops Q S k (heldT P ops Q S u) a w
def okT (md : Region.Mode) (ops : Array Oper) : Tr → Array Bool → Bool
  | .done, listed => decide (Region.ready md ops listed = [])
  | .take i r, listed => (match ops[i]? with | some o => calm o.op | none => false) && (Region.ready md ops listed).contains i && Region.free md ops listed i && okT md ops r (listed.setIfInBounds i true)
  | .one i r, listed => decide (Region.ready md ops listed = [i]) && okT md ops r (listed.setIfInBounds i true)
  | .two i r j s, listed => decide (Region.ready md ops listed = [i, j]) && decide (r.dep = s.dep) && okT md ops r (listed.setIfInBounds i true) && okT md ops s (listed.setIfInBounds j true)
  | .three i r j s k u, listed => decide (Region.ready md ops listed = [i, j, k]) && decide (r.dep = s.dep) && decide (r.dep = u.dep) && okT md ops r (listed.setIfInBounds i true) && okT md ops s (listed.setIfInBounds j true) && okT md ops u (listed.setIfInBounds k true)

theorem wpAnyH_of_heldT (hs : Region.noSelect ops = true) (hQ : ∀ c a d v w, Q (.panic c) (Act.put a d v) w → Q (.panic c) a w) :
    ∀ (t : Tr) (listed : Array Bool) (a : Act) (w : World), okT md ops t listed = true → S w → heldT P ops Q S t a w → wpAnyH P md ops Q S t.dep listed a w
  | .done, listed, a, w, hk, _, h => ⟨by simpa [okT] using hk, h⟩
  | .take i r, listed, a, w, hk, hS, h => by
    simp only [okT, Bool.and_eq_true] at hk
    obtain ⟨⟨⟨hc, hr⟩, hf⟩, hk'⟩ := hk
    unfold heldT stepQ at h
    rcases ho : ops[i]? with _ | o
    · simp only [ho] at hc
      cases hc
    · simp only [ho] at hc h
      by_cases hw : Region.wanted o (yielded ops a.tmps) = true
      · rw [if_pos hw] at h
        obtain ⟨v, hy, hn⟩ := quiet_yields hc hw h
        exact wpAnyH_take ho hs hf hr (fun c a w => hQ c a _ _ w) hy hS (wpAnyH_of_heldT hs hQ r _ _ w hk' hS hn)
      · rw [if_neg hw] at h
        exact wpAnyH_take ho hs hf hr (fun c a w => hQ c a _ _ w) (v := undef) (.inr ⟨by simpa using hw, rfl⟩) hS (wpAnyH_of_heldT hs hQ r _ _ w hk' hS h)
  | .one i r, listed, a, w, hk, hS, h => by
    simp only [okT, Bool.and_eq_true, decide_eq_true_eq] at hk
    obtain ⟨hr, hk'⟩ := hk
    unfold heldT stepE at h
    refine wpAnyH_all hr (by simp) fun j hj => ?_
    have hj' : j = i := by simpa using hj
    subst hj'
    rcases ho : ops[j]? with _ | o
    · simp only [ho] at h
    · simp only [ho] at h
      unfold wpOp
      simp only [ho]
      by_cases hw : Region.wanted o (yielded ops a.tmps) = true
      · rw [if_pos hw] at h
        rw [if_pos hw]
        exact .inl (Oper.wp_mono (fun a' w' ⟨hS', h'⟩ => ⟨hS', wpAnyH_of_heldT hs hQ r _ _ w' hk' hS' h'⟩) h)
      · rw [if_neg hw] at h
        rw [if_neg hw]
        exact ⟨hS, wpAnyH_of_heldT hs hQ r _ _ w hk' hS h⟩
  | .two i r k s, listed, a, w, hk, hS, h => by
    simp only [okT, Bool.and_eq_true, decide_eq_true_eq] at hk
    obtain ⟨⟨⟨hr, hd⟩, hk1⟩, hk2⟩ := hk
    unfold heldT stepE at h
    refine wpAnyH_all hr (by simp) fun j hj => ?_
    have hj' : j = i ∨ j = k := by simpa using hj
    rcases hj' with rfl | rfl
    · have h := h.1
      rcases ho : ops[j]? with _ | o
      · simp only [ho] at h
      · simp only [ho] at h
        unfold wpOp
        simp only [ho]
        by_cases hw : Region.wanted o (yielded ops a.tmps) = true
        · rw [if_pos hw] at h
          rw [if_pos hw]
          exact .inl (Oper.wp_mono (fun a' w' ⟨hS', h'⟩ => ⟨hS', wpAnyH_of_heldT hs hQ r _ _ w' hk1 hS' h'⟩) h)
        · rw [if_neg hw] at h
          rw [if_neg hw]
          exact ⟨hS, wpAnyH_of_heldT hs hQ r _ _ w hk1 hS h⟩
    · have h := h.2
      rcases ho : ops[j]? with _ | o
      · simp only [ho] at h
      · simp only [ho] at h
        unfold wpOp
        simp only [ho, hd]
        by_cases hw : Region.wanted o (yielded ops a.tmps) = true
        · rw [if_pos hw] at h
          rw [if_pos hw]
          exact .inl (Oper.wp_mono (fun a' w' ⟨hS', h'⟩ => ⟨hS', wpAnyH_of_heldT hs hQ s _ _ w' hk2 hS' h'⟩) h)
        · rw [if_neg hw] at h
          rw [if_neg hw]
          exact ⟨hS, wpAnyH_of_heldT hs hQ s _ _ w hk2 hS h⟩
  | .three i r k s m u, listed, a, w, hk, hS, h => by
    simp only [okT, Bool.and_eq_true, decide_eq_true_eq] at hk
    obtain ⟨⟨⟨⟨⟨hr, hd⟩, hd2⟩, hk1⟩, hk2⟩, hk3⟩ := hk
    unfold heldT stepE at h
    refine wpAnyH_all hr (by simp) fun x hx => ?_
    have hx' : x = i ∨ x = k ∨ x = m := by simpa using hx
    rcases hx' with rfl | rfl | rfl
    · have h := h.1
      rcases ho : ops[x]? with _ | o
      · simp only [ho] at h
      · simp only [ho] at h
        unfold wpOp
        simp only [ho]
        by_cases hw : Region.wanted o (yielded ops a.tmps) = true
        · rw [if_pos hw] at h
          rw [if_pos hw]
          exact .inl (Oper.wp_mono (fun a' w' ⟨hS', h'⟩ => ⟨hS', wpAnyH_of_heldT hs hQ r _ _ w' hk1 hS' h'⟩) h)
        · rw [if_neg hw] at h
          rw [if_neg hw]
          exact ⟨hS, wpAnyH_of_heldT hs hQ r _ _ w hk1 hS h⟩
    · have h := h.2.1
      rcases ho : ops[x]? with _ | o
      · simp only [ho] at h
      · simp only [ho] at h
        unfold wpOp
        simp only [ho, hd]
        by_cases hw : Region.wanted o (yielded ops a.tmps) = true
        · rw [if_pos hw] at h
          rw [if_pos hw]
          exact .inl (Oper.wp_mono (fun a' w' ⟨hS', h'⟩ => ⟨hS', wpAnyH_of_heldT hs hQ s _ _ w' hk2 hS' h'⟩) h)
        · rw [if_neg hw] at h
          rw [if_neg hw]
          exact ⟨hS, wpAnyH_of_heldT hs hQ s _ _ w hk2 hS h⟩
    · have h := h.2.2
      rcases ho : ops[x]? with _ | o
      · simp only [ho] at h
      · simp only [ho] at h
        unfold wpOp
        simp only [ho, hd2]
        by_cases hw : Region.wanted o (yielded ops a.tmps) = true
        · rw [if_pos hw] at h
          rw [if_pos hw]
          exact .inl (Oper.wp_mono (fun a' w' ⟨hS', h'⟩ => ⟨hS', wpAnyH_of_heldT hs hQ u _ _ w' hk3 hS' h'⟩) h)
        · rw [if_neg hw] at h
          rw [if_neg hw]
          exact ⟨hS, wpAnyH_of_heldT hs hQ u _ _ w hk3 hS h⟩

/-- The checks of a region and a tree of orders, as one Bool. -/
def okAllT (ops : Array Oper) (t : Tr) : Bool :=
  Region.noSelect ops && decide (t.dep = ops.size) && okT .any ops t (Array.replicate ops.size false)

theorem wp_region_tree {l : List Oper} (S : World → Prop) (t : Tr) {id : Nat} {a : Act} {w : World} (hm : P.follows .mixedOrders = true) (hk : okAllT l.toArray t = true)
    (hS : S w.drew) (h : heldT P l.toArray (NoPanic Q) S t a w.drew) : (Code.region id l.toArray true).wp P Q a w := by
  simp only [okAllT, Bool.and_eq_true, decide_eq_true_eq] at hk
  obtain ⟨⟨hs, hl⟩, hk'⟩ := hk
  have := wpAnyH_of_heldT (Q := NoPanic Q) hs (fun _ _ _ _ _ h => h) t _ a w.drew hk' hS h
  rw [hl] at this
  exact wp_region_noPanic (wp_region_held hm this)

/-- The operation at a place, by looking. -/
def nth : List Oper → Nat → Option Oper
  | [], _ => none
  | o :: _, 0 => some o
  | _ :: l, i + 1 => nth l i
theorem nth_at : ∀ (l : List Oper) (i : Nat), l.toArray[i]? = nth l i
  | [], i => by simp [nth]
  | o :: l, 0 => by simp [nth]
  | o :: l, i + 1 => by have := nth_at l i; simp only [List.getElem?_toArray, List.getElem?_cons_succ] at this ⊢; rw [this]; rfl

section
variable {l : List Oper} {i : Nat} {o : Oper} {q : Bool} {r : List (Nat × Bool)} {a : Act} {w : World}
theorem held_q (ho : nth l i = some o) (hw : Region.wanted o (yielded l.toArray a.tmps) = true) (h : ∀ K : Act → Prop, (∀ a', heldI P l.toArray Q S r a' w → K a') → o.quiet P a S K) :
    heldI P l.toArray Q S ((i, true) :: r) a w := by
  unfold heldI
  simp only [nth_at, ho]
  rw [if_pos hw, if_pos trivial]
  exact h _ fun _ h => h
theorem held_e (ho : nth l i = some o) (hw : Region.wanted o (yielded l.toArray a.tmps) = true) (h : ∀ K : Act → World → Prop, (∀ a' w', S w' → heldI P l.toArray Q S r a' w' → K a' w') → o.wp P a w K Q) :
    heldI P l.toArray Q S ((i, false) :: r) a w := by
  unfold heldI
  simp only [nth_at, ho]
  rw [if_pos hw, if_neg (by simp)]
  exact h _ fun a' w' h1 h2 => ⟨h1, h2⟩
theorem held_s (a' : Act) (ho : nth l i = some o) (hw : Region.wanted o (yielded l.toArray a.tmps) = false) (he : a.put o.dst undef = a') (h : heldI P l.toArray Q S r a' w) :
    heldI P l.toArray Q S ((i, q) :: r) a w := by
  subst he
  unfold heldI
  simp only [nth_at, ho]
  rw [if_neg (by simp [hw])]
  exact h
theorem held_n (h : Q .normal a w) : heldI P l.toArray (NoPanic Q) S [] a w := NoPanic.normal h
/-- A slot handed on. -/
theorem held_m (x : Operand) (a' : Act) (ho : nth l i = some o) (hx : o.op = .move x ∨ o.op = .assign x) (hw : Region.wanted o (yielded l.toArray a.tmps) = true) (he : a.put o.dst (a.eval x) = a') (h : heldI P l.toArray Q S r a' w) :
    heldI P l.toArray Q S ((i, true) :: r) a w := by
  subst he
  exact held_q ho hw fun K hK => by rcases hx with hx | hx; exact BigFrame.quiet_move x hx (hK _ h); exact BigFrame.quiet_assign x hx (hK _ h)
/-- A conversion whose outcome the class gives. -/
theorem held_conv (s d : TypeId) (x : Operand) (v : Value) (a' : Act) (ho : nth l i = some o) (hop : o.op = .convert s d x) (hw : Region.wanted o (yielded l.toArray a.tmps) = true)
    (hr : ∀ w, S w → (convert s d (a.eval x)).run P w = .ok v w) (he : a.put o.dst v = a') (h : heldI P l.toArray Q S r a' w) :
    heldI P l.toArray Q S ((i, true) :: r) a w := by
  subst he
  refine held_q ho hw fun K hK => ⟨v, fun w hS => ?_, hK _ h⟩
  unfold Oper.quietAt execOp
  rw [hop]
  simp only [Sem.run_bind, hr w hS, Result.andThen_ok]
  exact ⟨rfl, rfl⟩
end
section
variable {l : List Oper} {i j : Nat} {o o2 : Oper} {r s : Tr} {a : Act} {w : World}
theorem tree_q (ho : nth l i = some o) (hw : Region.wanted o (yielded l.toArray a.tmps) = true) (h : ∀ K : Act → Prop, (∀ a', heldT P l.toArray Q S r a' w → K a') → o.quiet P a S K) :
    heldT P l.toArray Q S (.take i r) a w := by
  unfold heldT stepQ
  simp only [nth_at, ho]
  rw [if_pos hw]
  exact h _ fun _ h => h
theorem tree_s (a' : Act) (ho : nth l i = some o) (hw : Region.wanted o (yielded l.toArray a.tmps) = false) (he : a.put o.dst undef = a') (h : heldT P l.toArray Q S r a' w) :
    heldT P l.toArray Q S (.take i r) a w := by
  subst he
  unfold heldT stepQ
  simp only [nth_at, ho]
  rw [if_neg (by simp [hw])]
  exact h
theorem tree_e (ho : nth l i = some o) (hw : Region.wanted o (yielded l.toArray a.tmps) = true) (h : ∀ K : Act → World → Prop, (∀ a' w', S w' → heldT P l.toArray Q S r a' w' → K a' w') → o.wp P a w K Q) :
    heldT P l.toArray Q S (.one i r) a w := by
  unfold heldT stepE
  simp only [nth_at, ho]
  rw [if_pos hw]
  exact h _ fun a' w' h1 h2 => ⟨h1, h2⟩
theorem tree_se (a' : Act) (ho : nth l i = some o) (hw : Region.wanted o (yielded l.toArray a.tmps) = false) (he : a.put o.dst undef = a') (h : heldT P l.toArray Q S r a' w) :
    heldT P l.toArray Q S (.one i r) a w := by
  subst he
  unfold heldT stepE
  simp only [nth_at, ho]
  rw [if_neg (by simp [hw])]
  exact h
theorem tree_three {k : Nat} {u : Tr} (h1 : heldT P l.toArray Q S (.one i r) a w) (h2 : heldT P l.toArray Q S (.one j s) a w) (h3 : heldT P l.toArray Q S (.one k u) a w) : heldT P l.toArray Q S (.three i r j s k u) a w := ⟨h1, h2, h3⟩
theorem tree_two (h1 : heldT P l.toArray Q S (.one i r) a w) (h2 : heldT P l.toArray Q S (.one j s) a w) : heldT P l.toArray Q S (.two i r j s) a w := ⟨h1, h2⟩
theorem tree_n (h : Q .normal a w) : heldT P l.toArray (NoPanic Q) S .done a w := NoPanic.normal h
theorem tree_conv (st d : TypeId) (x : Operand) (v : Value) (a' : Act) (ho : nth l i = some o) (hop : o.op = .convert st d x) (hw : Region.wanted o (yielded l.toArray a.tmps) = true)
    (hr : ∀ w, S w → (convert st d (a.eval x)).run P w = .ok v w) (he : a.put o.dst v = a') (h : heldT P l.toArray Q S r a' w) :
    heldT P l.toArray Q S (.take i r) a w := by
  subst he
  refine tree_q ho hw fun K hK => ⟨v, fun w hS => ?_, hK _ h⟩
  unfold Oper.quietAt execOp
  rw [hop]
  simp only [Sem.run_bind, hr w hS, Result.andThen_ok]
  exact ⟨rfl, rfl⟩
end
end
end Go.Proofs.Ytfmlenhakejefaa.Sch
end

/-
  Regions that draw their order, walked by a tree of orders: an operation that yields one value in every world of a class (a load, a nil check at a pointer that is not nil, whatever is pure) is taken as soon as it may come up; of the others at most two may come up at once.
-/
section
namespace Go.Proofs.Ytfmlenhakejefaa.Sch
open Go
set_option linter.unusedVariables false

section
variable {P : Program} {ops : Array Oper} {Q : Exit → Act → World → Prop} {md : Region.Mode} {S : World → Prop}

inductive Tn where
  | done
  | val (i : Nat) (r : Tn)
  | one (i : Nat) (r : Tn)
  | two (i : Nat) (r : Tn) (j : Nat) (s : Tn)
def Tn.dep : Tn → Nat
  | .done => 0
  | .val _ r => r.dep + 1
  | .one _ r => r.dep + 1
  | .two _ r _ _ => r.dep + 1
def stepV (P : Program) (ops : Array Oper) (S : World → Prop) (i : Nat) (K : Act → World → Prop) (a : Act) (w : World) : Prop :=
  match ops[i]? with
  | none => False
  | some o => if Region.wanted o (yielded ops a.tmps) = true then ∃ v, (∀ w', S w' → (execOp a.eval o).run P w' = .ok (.value v) w') ∧ K (a.put o.dst v) w else K (a.put o.dst undef) w
def heldN (P : Program) (ops : Array Oper) (Q : Exit → Act → World → Prop) (S : World → Prop) : Tn → Act → World → Prop
  | .done, a, w => Q .normal a w
  | .val i r, a, w => stepV P ops S i (heldN P ops Q S r) a w
  | .one i r, a, w => stepE P ops Q S i (heldN P ops Q S r) a w
  | .two i r j s, a, w => stepE P ops Q S i (heldN P ops Q S r) a w ∧ stepE P ops Q S j (heldN P ops Q S s) a w
def okN (md : Region.Mode) (ops : Array Oper) : Tn → Array Bool → Bool
  | .done, listed => decide (Region.ready md ops listed = [])
  | .val i r, listed => (Region.ready md ops listed).contains i && Region.free md ops listed i && okN md ops r (listed.setIfInBounds i true)
  | .one i r, listed => decide (Region.ready md ops listed = [i]) && okN md ops r (listed.setIfInBounds i true)
  | .two i r j s, listed => decide (Region.ready md ops listed = [i, j]) && decide (r.dep = s.dep) && okN md ops r (listed.setIfInBounds i true) && okN md ops s (listed.setIfInBounds j true)

theorem wpOp_of_stepE {i : Nat} {K K' : Act → World → Prop} {a : Act} {w : World} (h : stepE P ops Q S i K a w) (hS : S w) (hK : ∀ a' w', S w' → K a' w' → K' a' w') : wpOp P ops Q i (fun a' w' => S w' ∧ K' a' w') a w := by
  unfold stepE at h
  rcases ho : ops[i]? with _ | o
  · simp only [ho] at h
  · simp only [ho] at h
    unfold wpOp
    simp only [ho]
    by_cases hw : Region.wanted o (yielded ops a.tmps) = true
    · rw [if_pos hw] at h
      rw [if_pos hw]
      exact .inl (Oper.wp_mono (fun a' w' ⟨hS', h'⟩ => ⟨hS', hK _ _ hS' h'⟩) h)
    · rw [if_neg hw] at h
      rw [if_neg hw]
      exact ⟨hS, hK _ _ hS h⟩

theorem wpAnyH_of_heldN (hs : Region.noSelect ops = true) (hQ : ∀ c a d v w, Q (.panic c) (Act.put a d v) w → Q (.panic c) a w) :
    ∀ (t : Tn) (listed : Array Bool) (a : Act) (w : World), okN md ops t listed = true → S w → heldN P ops Q S t a w → wpAnyH P md ops Q S t.dep listed a w
  | .done, listed, a, w, hk, _, h => ⟨by simpa [okN] using hk, h⟩
  | .val i r, listed, a, w, hk, hS, h => by
    simp only [okN, Bool.and_eq_true] at hk
    obtain ⟨⟨hr, hf⟩, hk'⟩ := hk
    unfold heldN stepV at h
    rcases ho : ops[i]? with _ | o
    · simp only [ho] at h
    · simp only [ho] at h
      by_cases hw : Region.wanted o (yielded ops a.tmps) = true
      · rw [if_pos hw] at h
        obtain ⟨v, hy, hn⟩ := h
        exact wpAnyH_take ho hs hf hr (fun c a w => hQ c a _ _ w) (.inl ⟨hw, hy⟩) hS (wpAnyH_of_heldN hs hQ r _ _ w hk' hS hn)
      · rw [if_neg hw] at h
        exact wpAnyH_take ho hs hf hr (fun c a w => hQ c a _ _ w) (v := undef) (.inr ⟨by simpa using hw, rfl⟩) hS (wpAnyH_of_heldN hs hQ r _ _ w hk' hS h)
  | .one i r, listed, a, w, hk, hS, h => by
    simp only [okN, Bool.and_eq_true, decide_eq_true_eq] at hk
    obtain ⟨hr, hk'⟩ := hk
    refine wpAnyH_all hr (by simp) fun j hj => ?_
    have hj' : j = i := by simpa using hj
    subst hj'
    exact wpOp_of_stepE h hS fun a' w' hS' h' => wpAnyH_of_heldN hs hQ r _ _ w' hk' hS' h'
  | .two i r k s, listed, a, w, hk, hS, h => by
    simp only [okN, Bool.and_eq_true, decide_eq_true_eq] at hk
    obtain ⟨⟨⟨hr, hd⟩, hk1⟩, hk2⟩ := hk
    refine wpAnyH_all hr (by simp) fun j hj => ?_
    have hj' : j = i ∨ j = k := by simpa using hj
    rcases hj' with rfl | rfl
    · exact wpOp_of_stepE h.1 hS fun a' w' hS' h' => wpAnyH_of_heldN hs hQ r _ _ w' hk1 hS' h'
    · rw [hd]
      exact wpOp_of_stepE h.2 hS fun a' w' hS' h' => wpAnyH_of_heldN hs hQ s _ _ w' hk2 hS' h'

/-- The checks of a region and a tree of orders, as one Bool. -/
def okAllN (ops : Array Oper) (t : Tn) : Bool :=
  Region.noSelect ops && decide (t.dep = ops.size) && okN .any ops t (Array.replicate ops.size false)
theorem wp_region_tn {l : List Oper} (S : World → Prop) (t : Tn) {id : Nat} {a : Act} {w : World} (hm : P.follows .mixedOrders = true) (hk : okAllN l.toArray t = true)
    (hS : S w.drew) (h : heldN P l.toArray (NoPanic Q) S t a w.drew) : (Code.region id l.toArray true).wp P Q a w := by
  simp only [okAllN, Bool.and_eq_true, decide_eq_true_eq] at hk
  obtain ⟨⟨hs, hl⟩, hk'⟩ := hk
  have := wpAnyH_of_heldN (Q := NoPanic Q) hs (fun _ _ _ _ _ h => h) t _ a w.drew hk' hS h
  rw [hl] at this
  exact wp_region_noPanic (wp_region_held hm this)

section
variable {l : List Oper} {i j : Nat} {o o2 : Oper} {r s : Tn} {a : Act} {w : World}
theorem tn_q (hc : (match nth l i with | some o => calm o.op | none => false) = true) (ho : nth l i = some o) (hw : Region.wanted o (yielded l.toArray a.tmps) = true) (h : ∀ K : Act → Prop, (∀ a', heldN P l.toArray Q S r a' w → K a') → o.quiet P a S K) :
    heldN P l.toArray Q S (.val i r) a w := by
  unfold heldN stepV
  simp only [nth_at, ho]
  rw [if_pos hw]
  rw [ho] at hc
  obtain ⟨v, h1, h2⟩ := h (fun a' => heldN P l.toArray Q S r a' w) fun _ h => h
  obtain ⟨u, hu, hK⟩ := quiet_yields (P := P) (ops := l.toArray) (S := S) hc hw (show o.quiet P a S (fun a' => heldN P l.toArray Q S r a' w) from ⟨v, h1, h2⟩)
  rcases hu with ⟨_, hu⟩ | ⟨hn, _⟩
  · exact ⟨u, hu, hK⟩
  · rw [hw] at hn; cases hn
theorem tn_s (a' : Act) (ho : nth l i = some o) (hw : Region.wanted o (yielded l.toArray a.tmps) = false) (he : a.put o.dst undef = a') (h : heldN P l.toArray Q S r a' w) :
    heldN P l.toArray Q S (.val i r) a w := by
  subst he
  unfold heldN stepV
  simp only [nth_at, ho]
  rw [if_neg (by simp [hw])]
  exact h
/-- A nil check at a pointer that is not nil. -/
theorem tn_chk (x : Operand) (ad : Addr) (a' : Act) (ho : nth l i = some o) (hop : o.op = .nilCheck x) (hw : Region.wanted o (yielded l.toArray a.tmps) = true) (hx : a.eval x = .pointer (some ad)) (he : a.put o.dst (.pointer (some ad)) = a')
    (h : heldN P l.toArray Q S r a' w) : heldN P l.toArray Q S (.val i r) a w := by
  subst he
  unfold heldN stepV
  simp only [nth_at, ho]
  rw [if_pos hw]
  refine ⟨_, fun w' _ => ?_, h⟩
  unfold execOp
  rw [hop]
  simp only [hx, Sem.run_pure]
/-- A load whose outcome the class gives. -/
theorem tn_load (t : TypeId) (x : Operand) (ad v : Value) (a' : Act) (ho : nth l i = some o) (hop : o.op = .load t x) (hw : Region.wanted o (yielded l.toArray a.tmps) = true) (hx : a.eval x = ad)
    (hr : ∀ w, S w → (Instr.loadAt t ad).run P w = .ok v w) (he : a.put o.dst v = a') (h : heldN P l.toArray Q S r a' w) : heldN P l.toArray Q S (.val i r) a w := by
  subst he
  subst hx
  unfold heldN stepV
  simp only [nth_at, ho]
  rw [if_pos hw]
  refine ⟨_, fun w' hS => ?_, h⟩
  unfold execOp
  rw [hop]
  simp only [Sem.run_bind, hr w' hS, Result.andThen_ok]
  rfl
theorem tn_e (ho : nth l i = some o) (hw : Region.wanted o (yielded l.toArray a.tmps) = true) (h : ∀ K : Act → World → Prop, (∀ a' w', S w' → heldN P l.toArray Q S r a' w' → K a' w') → o.wp P a w K Q) :
    heldN P l.toArray Q S (.one i r) a w := by
  unfold heldN stepE
  simp only [nth_at, ho]
  rw [if_pos hw]
  exact h _ fun a' w' h1 h2 => ⟨h1, h2⟩
theorem tn_se (a' : Act) (ho : nth l i = some o) (hw : Region.wanted o (yielded l.toArray a.tmps) = false) (he : a.put o.dst undef = a') (h : heldN P l.toArray Q S r a' w) :
    heldN P l.toArray Q S (.one i r) a w := by
  subst he
  unfold heldN stepE
  simp only [nth_at, ho]
  rw [if_neg (by simp [hw])]
  exact h
theorem tn_two (h1 : heldN P l.toArray Q S (.one i r) a w) (h2 : heldN P l.toArray Q S (.one j s) a w) : heldN P l.toArray Q S (.two i r j s) a w := ⟨h1, h2⟩
theorem tn_n (h : Q .normal a w) : heldN P l.toArray (NoPanic Q) S .done a w := NoPanic.normal h
end
end
end Go.Proofs.Ytfmlenhakejefaa.Sch
end

/-
  Regions that draw their order, by what flows: each operation is walked once, whatever has come up before it but what it waits for.
-/
section
namespace Go.Proofs.Ytfmlenhakejefaa.Sch
open Go
set_option linter.unusedVariables false
section
variable {P : Program} {Q : Exit → Act → World → Prop} {S : World → Prop} {ops : Array Oper}

theorem on_ne {L : List Bool} {i k : Nat} (h : i ≠ k) (hk : (L.set i true).getD k false = true) : L.getD k false = true := by
  rw [List.getD_eq_getElem?_getD, List.getElem?_set_ne h] at hk
  rwa [List.getD_eq_getElem?_getD]
theorem off_ne {L : List Bool} {i k : Nat} (h : i ≠ k) (hk : (L.set i true).getD k false = false) : L.getD k false = false := by
  rw [List.getD_eq_getElem?_getD, List.getElem?_set_ne h] at hk
  rwa [List.getD_eq_getElem?_getD]
theorem on_self {L : List Bool} {i : Nat} (hi : i < L.length) : (L.set i true).getD i false = true := by
  rw [List.getD_eq_getElem?_getD, List.getElem?_set_self hi]
  rfl
/-- What is asked of the region: each operation waits for those that D says, and only for ones that stand before it. -/
def okF (ops : Array Oper) (n : Nat) (D : Nat → List Nat) : Bool :=
  Region.noSelect ops && decide (ops.size = n) && (List.range ops.size).all fun i => match ops[i]? with
    | some o => (D i).all (fun j => o.after.any fun e => Region.binds .any e && e.on == j) && o.after.all (fun e => !Region.binds .any e || decide (e.on < i))
    | none => false
/-- What has come up, has come up behind what it waits for. -/
def Closed (D : Nat → List Nat) (L : List Bool) : Prop := ∀ k, L.getD k false = true → ∀ j ∈ D k, L.getD j false = true
theorem Closed.none (D : Nat → List Nat) (n : Nat) : Closed D (List.replicate n false) := fun k h => by
  rw [List.getD_eq_getElem?_getD, List.getElem?_replicate] at h
  split at h <;> cases h
theorem on_more {L : List Bool} {i k : Nat} (h : L.getD k false = true) : (L.set i true).getD k false = true := by
  by_cases e : i = k
  · subst e
    rw [List.getD_eq_getElem?_getD] at h
    rcases hg : L[i]? with _ | x
    · rw [hg] at h; cases h
    · exact on_self (List.getElem?_eq_some_iff.1 hg).1
  · rw [List.getD_eq_getElem?_getD] at h ⊢
    rw [List.getElem?_set_ne e]
    exact h
theorem Closed.set {D : Nat → List Nat} {L : List Bool} {i : Nat} (h : Closed D L) (hi : i < L.length) (hd : ∀ j ∈ D i, L.getD j false = true) : Closed D (L.set i true) := fun k hk j hj => by
  by_cases e : i = k
  · subst e; exact on_more (hd j hj)
  · exact on_more (h k (on_ne e hk) j hj)
theorem ready_mem {listed : Array Bool} {i : Nat} (h : i ∈ Region.ready .any ops listed) : i < ops.size ∧ listed.getD i true = false ∧ ∃ o, ops[i]? = some o ∧ ∀ e ∈ o.after, Region.binds .any e = true → listed.getD e.on false = true := by
  unfold Region.ready at h
  rw [List.mem_filter, List.mem_range] at h
  obtain ⟨h1, h2⟩ := h
  rw [Bool.and_eq_true, Bool.not_eq_true'] at h2
  refine ⟨h1, h2.1, ?_⟩
  have h3 := h2.2
  rcases ho : ops[i]? with _ | o
  · rw [ho] at h3; cases h3
  · rw [ho] at h3
    simp only [Option.map_some, Option.getD_some, Array.all_eq_true_iff_forall_mem, Bool.or_eq_true, Bool.not_eq_true'] at h3
    refine ⟨o, rfl, fun e he hb => ?_⟩
    rcases h3 e he with h | h
    · rw [hb] at h; cases h
    · exact h
theorem ready_all {n : Nat} {D : Nat → List Nat} (hk : okF ops n D = true) {L : List Bool} (hL : L.length = ops.size) (h : Region.ready .any ops L.toArray = []) : ∀ i, i < ops.size → L.getD i false = true := by
  simp only [okF, Bool.and_eq_true, List.all_eq_true, List.mem_range] at hk
  intro i
  induction i using Nat.strongRecOn with
  | ind i ih =>
    intro hi
    rcases hb : L.getD i false with _ | _
    · exfalso
      have h1 : i ∈ Region.ready .any ops L.toArray := by
        unfold Region.ready
        rw [List.mem_filter, List.mem_range]
        refine ⟨hi, ?_⟩
        have h2 := hk.2 i hi
        rcases ho : ops[i]? with _ | o
        · rw [ho] at h2; cases h2
        · rw [ho] at h2
          simp only [Bool.and_eq_true] at h2
          rw [Bool.and_eq_true, Bool.not_eq_true']
          refine ⟨?_, ?_⟩
          · rw [List.getD_eq_getElem?_getD, List.getElem?_eq_getElem (by omega)] at hb
            simp only [Option.getD_some] at hb
            simp [Array.getD, hL, hi, hb]
          · simp only [Option.map_some, Option.getD_some, Array.all_eq_true_iff_forall_mem, Bool.or_eq_true, Bool.not_eq_true']
            intro e he
            have h3 := h2.2
            rw [Array.all_eq_true_iff_forall_mem] at h3
            have h4 := h3 e he
            rcases hbi : Region.binds .any e with _ | _
            · exact .inl rfl
            · rw [hbi] at h4
              simp only [Bool.not_true, Bool.false_or, decide_eq_true_eq] at h4
              right
              have h5 := ih e.on h4 (by omega)
              rw [List.getD_eq_getElem?_getD, List.getElem?_eq_getElem (by omega)] at h5
              simp only [Option.getD_some] at h5
              simp [Array.getD, hL, Nat.lt_trans h4 hi, h5]
      rw [h] at h1
      cases h1
    · rfl
theorem count_step {L : List Bool} {i : Nat} (hi : i < L.length) (h : L.getD i false = false) : L.count false = (L.set i true).count false + 1 := by
  induction L generalizing i with
  | nil => simp at hi
  | cons x t ih =>
    cases i with
    | zero =>
      simp at h
      subst h
      simp
    | succ i =>
      have := ih (i := i) (by simpa using hi) (by simpa using h)
      simp only [List.set_cons_succ, List.count_cons]
      omega
theorem wpAnyH_flow {n : Nat} {D : Nat → List Nat} (hk : okF ops n D = true) (J : List Bool → Act → World → Prop)
    (hstep : ∀ (L : List Bool) (i : Nat), L.length = n → i < n → (∀ j ∈ D i, L.getD j false = true) → L.getD i false = false → Closed D L → ∀ a w, S w → J L a w → stepE P ops Q S i (J (L.set i true)) a w)
    (hend : ∀ L : List Bool, (∀ i, i < n → L.getD i false = true) → ∀ a w, S w → J L a w → Q .normal a w) :
    ∀ (m : Nat) (L : List Bool), L.length = ops.size → L.count false = m → Closed D L → ∀ a w, S w → J L a w → wpAnyH P .any ops Q S m L.toArray a w := by
  have hn : ops.size = n := by simp only [okF, Bool.and_eq_true, decide_eq_true_eq] at hk; exact hk.1.2
  intro m
  induction m with
  | zero =>
    intro L hL hc hcl a w hS hJ
    have hall : ∀ i, i < ops.size → L.getD i false = true := by
      intro i hi
      rcases hb : L.getD i false with _ | _
      · have := count_step (by omega) hb; omega
      · rfl
    refine ⟨?_, hend L (fun i hi => hall i (by omega)) a w hS hJ⟩
    refine List.eq_nil_iff_forall_not_mem.2 fun i hi => ?_
    obtain ⟨h1, h2, -⟩ := ready_mem hi
    have h3 := hall i h1
    rw [List.getD_eq_getElem?_getD, List.getElem?_eq_getElem (by omega)] at h3
    simp only [Option.getD_some] at h3
    simp [Array.getD, hL, h1, h3] at h2
  | succ m ih =>
    intro L hL hc hcl a w hS hJ
    refine ⟨fun h => hend L (fun i hi => ready_all hk hL h i (by omega)) a w hS hJ, fun i hi => ?_⟩
    obtain ⟨h1, h2, o, ho, h3⟩ := ready_mem hi
    have h4 : L.getD i false = false := by
      rw [List.getD_eq_getElem?_getD, List.getElem?_eq_getElem (by omega)]
      simp [Array.getD, hL, h1] at h2
      simp [h2]
    have h5 : ∀ j ∈ D i, L.getD j false = true := by
      intro j hj
      simp only [okF, Bool.and_eq_true, List.all_eq_true, List.mem_range] at hk
      have h6 := hk.2 i h1
      rw [ho] at h6
      simp only [Bool.and_eq_true, List.all_eq_true] at h6
      have h7 := h6.1 j hj
      rw [Array.any_eq_true'] at h7
      obtain ⟨e, he, hb⟩ := h7
      rw [Bool.and_eq_true, beq_iff_eq] at hb
      have h8 := h3 e he hb.1
      rw [hb.2] at h8
      rcases Nat.lt_or_ge j L.length with hlt | hge
      · rw [List.getD_eq_getElem?_getD, List.getElem?_eq_getElem hlt]
        simp [Array.getD, hlt] at h8
        simp [h8]
      · simp [Array.getD, Nat.not_lt.2 hge] at h8
    refine wpOp_of_stepE (hstep L i (by omega) (by omega) h5 h4 hcl a w hS hJ) hS fun a' w' hS' h' => ?_
    have e2 : L.toArray.setIfInBounds i true = (L.set i true).toArray := by simp
    rw [e2]
    exact ih (L.set i true) (by rw [List.length_set]; exact hL) (by have := count_step (show i < L.length by omega) h4; omega) (hcl.set (show i < L.length by omega) h5) a' w' hS' h'
theorem wp_region_flow {l : List Oper} (S : World → Prop) (n : Nat) (D : Nat → List Nat) (J : List Bool → Act → World → Prop) {id : Nat} {a : Act} {w : World} (hm : P.follows .mixedOrders = true) (hk : okF l.toArray n D = true) (hS : S w.drew) (h0 : J (List.replicate n false) a w.drew)
    (hstep : ∀ (L : List Bool) (i : Nat), L.length = n → i < n → (∀ j ∈ D i, L.getD j false = true) → L.getD i false = false → Closed D L → ∀ a w, S w → J L a w → stepE P l.toArray (NoPanic Q) S i (J (L.set i true)) a w)
    (hend : ∀ L : List Bool, (∀ i, i < n → L.getD i false = true) → ∀ a w, S w → J L a w → Q .normal a w) : (Code.region id l.toArray true).wp P Q a w := by
  have hn : l.toArray.size = n := by simp only [okF, Bool.and_eq_true, decide_eq_true_eq] at hk; exact hk.1.2
  have main := wpAnyH_flow (P := P) (Q := NoPanic Q) (S := S) hk J hstep hend n (List.replicate n false) (by rw [List.length_replicate, hn]) List.count_replicate_self (Closed.none D n) a w.drew hS h0
  have : wpAnyH P .any l.toArray (NoPanic Q) S l.toArray.size (Array.replicate l.toArray.size false) a w.drew := by
    rw [hn]
    rw [List.toArray_replicate] at main
    exact main
  exact wp_region_noPanic (wp_region_held hm this)
end
section
variable {P : Program} {S : World → Prop} {Q : Exit → Act → World → Prop} {l : List Oper} {i : Nat} {o : Oper} {a : Act} {w : World} {J : Act → World → Prop}
/-- An operation's step. -/
theorem fl_e (ho : nth l i = some o) (hw : Region.wanted o (yielded l.toArray a.tmps) = true) (h : ∀ K : Act → World → Prop, (∀ a' w', S w' → J a' w' → K a' w') → o.wp P a w K Q) : stepE P l.toArray Q S i J a w := by
  unfold stepE
  simp only [nth_at, ho]
  rw [if_pos hw]
  exact h _ fun a' w' h1 h2 => ⟨h1, h2⟩
end
end Go.Proofs.Ytfmlenhakejefaa.Sch
end
