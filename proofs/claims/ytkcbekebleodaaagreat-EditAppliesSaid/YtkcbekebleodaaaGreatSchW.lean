/-
  Regions that draw their order, in a function that calls yield: the trees of orders of XSchN at the wide fence.
-/
import Derived.Test.YtkcbekebleodaaaGreatMSched
import Derived.OrdersIn
import Derived.ControlIn
namespace Go.Proofs.YtkcbekebleodaaaGreat.Sch
open Go
set_option linter.unusedVariables false

section
variable {n : Nat} {P : Program} {ops : Array Oper} {Q : Exit → Act → World → Prop} {md : Region.Mode} {S : World → Prop}
/-- Whatever comes up next; behind each operation S holds. -/
def anyW (n : Nat) (P : Program) (md : Region.Mode) (ops : Array Oper) (Q : Exit → Act → World → Prop) (S : World → Prop) : Nat → Array Bool → Act → World → Prop
  | 0, listed, a, w => Region.ready md ops listed = [] ∧ Q .normal a w
  | m + 1, listed, a, w => (Region.ready md ops listed = [] → Q .normal a w) ∧ ∀ i ∈ Region.ready md ops listed, wpOpIn Fence.wide n P ops Q i (fun a' w' => S w' ∧ anyW n P md ops Q S m (listed.setIfInBounds i true) a' w') a w
theorem anyW_any : ∀ (m : Nat) (listed : Array Bool) (a : Act) (w : World), anyW n P md ops Q S m listed a w → wpAnyIn Fence.wide n P md ops Q m listed a w
  | 0, _, _, _, h => h
  | m + 1, _, _, _, h => ⟨h.1, fun i hi => wpOpIn_mono (fun a' w' h' => anyW_any m _ a' w' h'.2) (h.2 i hi)⟩
theorem opW {i : Nat} {o : Oper} (ho : ops[i]? = some o) {K : Act → World → Prop} {a : Act} {w : World} :
    wpOpIn Fence.wide n P ops Q i K a w ↔ (if Region.wanted o (yielded ops a.tmps) = true then o.uponIn Fence.wide n P a K Q ((execOp a.eval o).run P w) else K (a.put o.dst undef) w) := by
  unfold wpOpIn Oper.wpIn
  simp only [ho, show Fence.wide.round = none from rfl, Oper.semAt_none]
  by_cases hw : Region.wanted o (yielded ops a.tmps) = true
  · simp only [hw, if_true]
    exact ⟨fun h => h.2, fun h => ⟨fun _ _ => trivial, h⟩⟩
  · simp only [hw, Bool.false_eq_true, if_false]
    exact ⟨fun h => h.2, fun h => ⟨fun _ _ => trivial, h⟩⟩
theorem valW {i : Nat} {o : Oper} {v : Value} {a : Act} (ho : ops[i]? = some o) (hy : YieldsIf P ops S o v a) {K : Act → World → Prop} {w : World} (hS : S w) (h : K (a.put o.dst v) w) : wpOpIn Fence.wide n P ops Q i K a w := by
  rw [opW ho]
  rcases hy with ⟨hw, hv⟩ | ⟨hw, rfl⟩
  · rw [if_pos hw, hv w hS]; exact h
  · rw [if_neg (by simp [hw])]; exact h
/-- An operation that is apart from one that yields: which of them comes first makes no difference. -/
theorem swapW {j : Nat} {oi oj : Oper} {v : Value} (hj : ops[j]? = some oj) (hap : oi.apart ops oj = true) (hsi : ∀ cs b, oi.op ≠ .select cs b) (hsj : ∀ cs b, oj.op ≠ .select cs b)
    (hQ : ∀ c a w, Q (.panic c) (a.put oi.dst v) w → Q (.panic c) a w) {K : Act → World → Prop} {a : Act} {w : World} (hy : YieldsIf P ops S oi v a) (h : wpOpIn Fence.wide n P ops Q j K (a.put oi.dst v) w) :
    wpOpIn Fence.wide n P ops Q j (fun a' w' => YieldsIf P ops S oi v a' ∧ K (a'.put oi.dst v) w') a w := by
  obtain ⟨h1, h2, h3⟩ := Oper.apart_spec hap
  have keep : ∀ (b : Act), YieldsIf P ops S oi v b → ∀ u, YieldsIf P ops S oi v (b.put oj.dst u) := fun b hb u => hb.of_same (execOp_put oi hsi b oj.dst u h3) (wanted_put oi b oj.dst u h3)
  have turn : ∀ (b : Act) u w', YieldsIf P ops S oi v b → K ((b.put oi.dst v).put oj.dst u) w' → YieldsIf P ops S oi v (b.put oj.dst u) ∧ K ((b.put oj.dst u).put oi.dst v) w' := fun b u w' hb hk =>
    ⟨keep b hb u, by rw [← Act.put_comm b v u h2]; exact hk⟩
  rw [opW hj] at h ⊢
  rw [wanted_put oj a oi.dst v h1, execOp_put oj hsj a oi.dst v h1] at h
  by_cases hw : Region.wanted oj (yielded ops a.tmps) = true
  · rw [if_pos hw] at h ⊢
    generalize (execOp a.eval oj).run P w = res at *
    rcases res with ⟨x, w'⟩ | ⟨x, w'⟩
    · cases x with
      | value u => exact turn a u w' hy h
      | skip => exact turn a undef w' hy h
      | defer d =>
        refine turn { a with defers := d :: a.defers } undef w' (hy.of_same rfl rfl) ?_
        rw [← Act.put_defers]
        exact h
      | enter f args =>
        refine ⟨h.1, CallsIn.mono h.2 fun e w'' he => ?_⟩
        rcases e with u | c | _
        · exact turn a u w'' hy he
        · exact hQ _ _ _ he
        · exact he
      | row r args => exact ⟨h.1, RowsIn.mono h.2 fun u w'' he => turn a u w'' hy he⟩
      | round l f tmps assign body =>
        refine ⟨h.1, RoundIn.mono h.2 fun e w'' he => ?_⟩
        rcases e with u | c | _
        · exact turn a u w'' hy he
        · exact hQ _ _ _ he
        · exact he
      | _ => exact h
    · cases x with
      | panic u => exact hQ _ _ _ h
      | _ => exact h
  · rw [if_neg hw] at h ⊢
    exact turn a undef w hy h
theorem firstW {i : Nat} {oi : Oper} {v : Value} (hi : ops[i]? = some oi) (hs : Region.noSelect ops = true) (hQ : ∀ c a d v w, Q (.panic c) (Act.put a d v) w → Q (.panic c) a w) :
    ∀ (m : Nat) (listed : Array Bool) (a : Act) (w : World),
      (∀ j oj, ops[j]? = some oj → j ≠ i → listed.getD j true = false → (∀ e ∈ oj.after, Region.binds md e = true → e.on ≠ i) → oi.apart ops oj = true) →
      i ∈ Region.ready md ops listed → YieldsIf P ops S oi v a → S w → anyW n P md ops Q S m (listed.setIfInBounds i true) (a.put oi.dst v) w → anyW n P md ops Q S (m + 1) listed a w := by
  intro m
  induction m with
  | zero =>
    intro listed a w _ hr hy hS H
    refine ⟨fun h => absurd (h ▸ hr) (by simp), fun j hj => ?_⟩
    by_cases hji : j = i
    · subst hji
      exact valW hi hy hS ⟨hS, H⟩
    · have := ready_mono hj hji
      rw [H.1] at this
      cases this
  | succ m ih =>
    intro listed a w hfree hr hy hS H
    refine ⟨fun h => absurd (h ▸ hr) (by simp), fun j hj => ?_⟩
    by_cases hji : j = i
    · subst hji
      exact valW hi hy hS ⟨hS, H⟩
    · obtain ⟨hjun, oj, hoj, hall⟩ := mem_ready.1 hj
      have hnot : ∀ e ∈ oj.after, Region.binds md e = true → e.on ≠ i := fun e he hb heq => by
        have k1 := hall e he hb
        have k0 := (mem_ready.1 hr).1
        rw [heq] at k1
        by_cases hlt : i < listed.size
        · simp [hlt] at k0 k1
          rw [k0] at k1
          cases k1
        · simp [Array.getElem?_eq_none (Nat.le_of_not_lt hlt)] at k1
      refine wpOpIn_mono (fun a' w' k => ⟨k.2.1, ih (listed.setIfInBounds j true) a' w' (fun x ox hx hxi hun hno => hfree x ox hx hxi ?_ hno) (ready_mono hr (Ne.symm hji)) k.1 k.2.1 ?_⟩)
        (swapW hoj (hfree j oj hoj hji hjun hnot) (fun cs b => Region.noSelect_spec hs i oi cs b hi) (fun cs b => Region.noSelect_spec hs j oj cs b hoj) (fun c b w => hQ c b _ _ w) hy (H.2 j (ready_mono hj hji)))
      · by_cases hjx : j = x
        · subst hjx; exact hjun
        · rwa [getD_set_ne true hjx] at hun
      · rw [Array.setIfInBounds_comm _ _ hji]
        exact k.2.2

def stepW (n : Nat) (P : Program) (ops : Array Oper) (Q : Exit → Act → World → Prop) (S : World → Prop) (i : Nat) (K : Act → World → Prop) (a : Act) (w : World) : Prop :=
  match ops[i]? with
  | none => False
  | some o => if Region.wanted o (yielded ops a.tmps) = true then o.wpIn Fence.wide n P a w (fun a' w' => S w' ∧ K a' w') Q else K (a.put o.dst undef) w
def heldW (n : Nat) (P : Program) (ops : Array Oper) (Q : Exit → Act → World → Prop) (S : World → Prop) : Tn → Act → World → Prop
  | .done, a, w => Q .normal a w
  | .val i r, a, w => stepV P ops S i (heldW n P ops Q S r) a w
  | .one i r, a, w => stepW n P ops Q S i (heldW n P ops Q S r) a w
  | .two _ _ _ _, _, _ => False
theorem anyW_of_heldW (hs : Region.noSelect ops = true) (hQ : ∀ c a d v w, Q (.panic c) (Act.put a d v) w → Q (.panic c) a w) :
    ∀ (t : Tn) (listed : Array Bool) (a : Act) (w : World), okN md ops t listed = true → S w → heldW n P ops Q S t a w → anyW n P md ops Q S t.dep listed a w
  | .done, listed, a, w, hk, _, h => ⟨by simpa [okN] using hk, h⟩
  | .val i r, listed, a, w, hk, hS, h => by
    simp only [okN, Bool.and_eq_true] at hk
    obtain ⟨⟨hr, hf⟩, hk'⟩ := hk
    unfold heldW stepV at h
    rcases ho : ops[i]? with _ | o
    · simp only [ho] at h
    · simp only [ho] at h
      by_cases hw : Region.wanted o (yielded ops a.tmps) = true
      · rw [if_pos hw] at h
        obtain ⟨v, hy, hn⟩ := h
        exact firstW ho hs hQ _ listed a w (Region.free_spec ho hf) (by simpa using hr) (.inl ⟨hw, hy⟩) hS (anyW_of_heldW hs hQ r _ _ w hk' hS hn)
      · rw [if_neg hw] at h
        exact firstW ho hs hQ _ listed a w (Region.free_spec ho hf) (by simpa using hr) (v := undef) (.inr ⟨by simpa using hw, rfl⟩) hS (anyW_of_heldW hs hQ r _ _ w hk' hS h)
  | .one i r, listed, a, w, hk, hS, h => by
    simp only [okN, Bool.and_eq_true, decide_eq_true_eq] at hk
    obtain ⟨hr, hk'⟩ := hk
    refine ⟨fun h0 => absurd (hr ▸ h0) (by simp), fun j hj => ?_⟩
    rw [hr] at hj
    have hj' : j = i := by simpa using hj
    subst hj'
    unfold heldW stepW at h
    rcases ho : ops[j]? with _ | o
    · simp only [ho] at h
    · simp only [ho] at h
      unfold wpOpIn
      simp only [ho]
      by_cases hw : Region.wanted o (yielded ops a.tmps) = true
      · rw [if_pos hw] at h
        rw [if_pos hw]
        exact Oper.wpIn_mono (fun a' w' ⟨hS', h'⟩ => ⟨hS', anyW_of_heldW hs hQ r _ _ w' hk' hS' h'⟩) h
      · rw [if_neg hw] at h
        rw [if_neg hw]
        exact ⟨fun _ _ => trivial, hS, anyW_of_heldW hs hQ r _ _ w hk' hS h⟩
  | .two _ _ _ _, _, _, _, _, _, h => h.elim
theorem wpIn_region_tn {l : List Oper} (S : World → Prop) (t : Tn) {id : Nat} {a : Act} {w : World} (hm : P.follows .mixedOrders = true) (hk : okAllN l.toArray t = true)
    (hS : S w.drew) (h : heldW n P l.toArray (NoPanic Q) S t a w.drew) : (Code.region id l.toArray true).wpIn Fence.wide n P Q a w := by
  simp only [okAllN, Bool.and_eq_true, decide_eq_true_eq] at hk
  obtain ⟨⟨hs, hl⟩, hk'⟩ := hk
  have h2 := anyW_any _ _ _ _ (anyW_of_heldW (Q := NoPanic Q) hs (fun _ _ _ _ _ h => h) t _ a w.drew hk' hS h)
  rw [hl] at h2
  exact wpIn_mono (wpIn_region_any hm h2) fun e a' w' he => NoPanic.imp e a' w' he

section
variable {l : List Oper} {i j : Nat} {o : Oper} {r : Tn} {a : Act} {w : World}
theorem tw_q (hc : (match nth l i with | some o => calm o.op | none => false) = true) (ho : nth l i = some o) (hw : Region.wanted o (yielded l.toArray a.tmps) = true) (h : ∀ K : Act → Prop, (∀ a', heldW n P l.toArray Q S r a' w → K a') → o.quiet P a S K) :
    heldW n P l.toArray Q S (.val i r) a w := by
  unfold heldW stepV
  simp only [nth_at, ho]
  rw [if_pos hw]
  rw [ho] at hc
  obtain ⟨v, h1, h2⟩ := h (fun a' => heldW n P l.toArray Q S r a' w) fun _ h => h
  obtain ⟨u, hu, hK⟩ := quiet_yields (P := P) (ops := l.toArray) (S := S) hc hw (show o.quiet P a S (fun a' => heldW n P l.toArray Q S r a' w) from ⟨v, h1, h2⟩)
  rcases hu with ⟨_, hu⟩ | ⟨hn, _⟩
  · exact ⟨u, hu, hK⟩
  · rw [hw] at hn; cases hn
theorem tw_s (a' : Act) (ho : nth l i = some o) (hw : Region.wanted o (yielded l.toArray a.tmps) = false) (he : a.put o.dst undef = a') (h : heldW n P l.toArray Q S r a' w) :
    heldW n P l.toArray Q S (.val i r) a w := by
  subst he
  unfold heldW stepV
  simp only [nth_at, ho]
  rw [if_neg (by simp [hw])]
  exact h
theorem tw_chk (x : Operand) (ad : Addr) (a' : Act) (ho : nth l i = some o) (hop : o.op = .nilCheck x) (hw : Region.wanted o (yielded l.toArray a.tmps) = true) (hx : a.eval x = .pointer (some ad)) (he : a.put o.dst (.pointer (some ad)) = a')
    (h : heldW n P l.toArray Q S r a' w) : heldW n P l.toArray Q S (.val i r) a w := by
  subst he
  unfold heldW stepV
  simp only [nth_at, ho]
  rw [if_pos hw]
  refine ⟨_, fun w' _ => ?_, h⟩
  unfold execOp
  rw [hop]
  simp only [hx, Sem.run_pure]
theorem tw_load (t : TypeId) (x : Operand) (ad v : Value) (a' : Act) (ho : nth l i = some o) (hop : o.op = .load t x) (hw : Region.wanted o (yielded l.toArray a.tmps) = true) (hx : a.eval x = ad)
    (hr : ∀ w, S w → (Instr.loadAt t ad).run P w = .ok v w) (he : a.put o.dst v = a') (h : heldW n P l.toArray Q S r a' w) : heldW n P l.toArray Q S (.val i r) a w := by
  subst he
  subst hx
  unfold heldW stepV
  simp only [nth_at, ho]
  rw [if_pos hw]
  refine ⟨_, fun w' hS => ?_, h⟩
  unfold execOp
  rw [hop]
  simp only [Sem.run_bind, hr w' hS, Result.andThen_ok]
  rfl
theorem tw_e (ho : nth l i = some o) (hw : Region.wanted o (yielded l.toArray a.tmps) = true) (h : ∀ K : Act → World → Prop, (∀ a' w', S w' → heldW n P l.toArray Q S r a' w' → K a' w') → o.wpIn Fence.wide n P a w K Q) :
    heldW n P l.toArray Q S (.one i r) a w := by
  unfold heldW stepW
  simp only [nth_at, ho]
  rw [if_pos hw]
  exact h _ fun a' w' h1 h2 => ⟨h1, h2⟩
theorem tw_se (a' : Act) (ho : nth l i = some o) (hw : Region.wanted o (yielded l.toArray a.tmps) = false) (he : a.put o.dst undef = a') (h : heldW n P l.toArray Q S r a' w) :
    heldW n P l.toArray Q S (.one i r) a w := by
  subst he
  unfold heldW stepW
  simp only [nth_at, ho]
  rw [if_neg (by simp [hw])]
  exact h
theorem tw_n (h : Q .normal a w) : heldW n P l.toArray (NoPanic Q) S .done a w := NoPanic.normal h
end
end
end Go.Proofs.YtkcbekebleodaaaGreat.Sch
