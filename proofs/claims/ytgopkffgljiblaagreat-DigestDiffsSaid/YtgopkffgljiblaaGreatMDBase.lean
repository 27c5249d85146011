/-
  A dot in memory, '==' of dots, the library's cmp.Compare and cmp.Or at numbers.
-/
import Derived.Test.YtgopkffgljiblaaGreatRows
import Derived.Test.YtgopkffgljiblaaGreatMGen
import Derived.Test.YtgopkffgljiblaaGreatMSched
import Derived.Laws.StructEq
import Derived.Sort.Grow

section
namespace Go.Proofs.YtgopkffgljiblaaGreat.D
set_option linter.unusedVariables false
open Go.RowKit V

abbrev dv (x : Dt) : Value := .agg #[.int .i64 x.1, .int .i64 x.2]
theorem infoD : (Tryz.prog.info? 48).map (fun i => (i.zero, i.size, i.bytes)) = some (some (.agg #[.int .i64 0, .int .i64 0]), 2, 16) := by kernel_rfl

theorem eql_dot (x y : Dt) (w : World) : Sem.run Tryz.prog (binOp .eql 48 (dv x) (dv y)) w = .ok (.bool (decide (x = y))) w := by
  have u3 := Tryz.underlying3
  have a3 := Tryz.isAgg3
  have z3 := Tryz.sizeOf3
  have hS : Tryz.prog.underlying 48 = some (.struct (Tryz.prog.fieldsOf 48)) := by kernel_rfl
  have hp : Tryz.prog.stoodInHeld 48 = false := by kernel_rfl
  rw [run_eql_struct, show (10000 : Nat) = 9999 + 1 from rfl, run_equalIn_agg w 9999 48 _ _ hS hp]
  simp only [Program.fieldsOf, Tryz.underlying48]
  go_simp
  obtain ⟨x1, x2⟩ := x
  obtain ⟨y1, y2⟩ := y
  by_cases h1 : x1 = y1 <;> by_cases h2 : x2 = y2 <;> simp [h1, h2]
theorem neq_dot (x y : Dt) (w : World) : Sem.run Tryz.prog (binOp .neq 48 (dv x) (dv y)) w = .ok (.bool (!decide (x = y))) w := by
  have u3 := Tryz.underlying3
  have a3 := Tryz.isAgg3
  have z3 := Tryz.sizeOf3
  have hS : Tryz.prog.underlying 48 = some (.struct (Tryz.prog.fieldsOf 48)) := by kernel_rfl
  have hp : Tryz.prog.stoodInHeld 48 = false := by kernel_rfl
  rw [run_neq_struct, show (10000 : Nat) = 9999 + 1 from rfl, run_equalIn_agg w 9999 48 _ _ hS hp]
  simp only [Program.fieldsOf, Tryz.underlying48]
  go_simp
  obtain ⟨x1, x2⟩ := x
  obtain ⟨y1, y2⟩ := y
  by_cases h1 : x1 = y1 <;> by_cases h2 : x2 = y2 <;> simp [h1, h2]
def cmpI (x y : Int) : Int := if x < y then -1 else if y < x then 1 else 0

set_option maxRecDepth 100000 in
theorem cmp_int (x y : Int) (w : World) : Calls Tryz.prog 88 #[.int .i64 x, .int .i64 y] w fun e w' => e = .returned (.int .i64 (cmpI x y)) ∧ w' = w := by
  have hn : ∀ (z : Int) (w : World), Calls Tryz.prog 97 #[.int .i64 z] w fun e w' => e = .returned (.bool false) ∧ w' = w := by
    intro z w
    go_enter Tryz.func97, Tryz.ntmps97
    go_wp2_with fail
    go_ret
    simp
  unfold cmpI
  rcases Int.lt_trichotomy x y with h | h | h
  · rw [if_pos h]
    go_enter Tryz.func88, Tryz.ntmps88
    go_wp2_with (go_at_call 97; refine (hn _ _).mono ?_; rintro e w' ⟨rfl, rfl⟩)
    go_ret
    simp
  · rw [if_neg (by omega), if_neg (by omega)]
    have h1 : ¬ x < y := by omega
    have h2 : ¬ y < x := by omega
    clear h
    go_enter Tryz.func88, Tryz.ntmps88
    go_wp2_with (go_at_call 97; refine (hn _ _).mono ?_; rintro e w' ⟨rfl, rfl⟩)
    go_ret
    simp
  · rw [if_neg (by omega), if_pos h]
    have h1 : ¬ x < y := by omega
    go_enter Tryz.func88, Tryz.ntmps88
    go_wp2_with (go_at_call 97; refine (hn _ _).mono ?_; rintro e w' ⟨rfl, rfl⟩)
    go_ret
    simp

set_option maxRecDepth 100000 in
theorem or_int (p q : Int) (g : Nat) (w : World) (h0 : w.cell? ⟨g, 0, none⟩ = some (.int .i64 p)) (h1 : w.cell? ⟨g, 1, none⟩ = some (.int .i64 q)) :
    Calls Tryz.prog 87 #[.slice (some ⟨g, 0, none⟩) 2 2] w fun e w' => e = .returned (.int .i64 (if p = 0 then q else p)) ∧ w' = w := by
  by_cases hp : p = 0
  · rw [if_pos hp]
    subst hp
    by_cases hq : q = 0
    · subst hq
      go_enter Tryz.func87, Tryz.ntmps87
      go_wp2_with fail
      refine wp_loop_rounds 3 ?_
      rw [rounds_succ]
      go_wp2_with fail
      rw [rounds_succ]
      go_wp2_with fail
      rw [rounds_succ]
      go_wp2_with fail
      go_ret
      simp
    · have hq' : decide (q = 0) = false := by simpa using hq
      go_enter Tryz.func87, Tryz.ntmps87
      go_wp2_with fail
      refine wp_loop_rounds 3 ?_
      rw [rounds_succ]
      go_wp2_with fail
      rw [rounds_succ]
      go_wp2_with fail
      go_ret
      simp
  · rw [if_neg hp]
    go_enter Tryz.func87, Tryz.ntmps87
    go_wp2_with fail
    refine wp_loop_rounds 3 ?_
    rw [rounds_succ]
    go_wp2_with fail
    go_ret
    simp

/-! ### Loads -/
theorem load_int {w : World} {b o : Nat} {z : Int} (h : w.cell? ⟨b, o, none⟩ = some (.int .i64 z)) : (Instr.loadAt 3 (.pointer (some ⟨b, o, none⟩))).run Tryz.prog w = .ok (.int .i64 z) w := by
  go_simp
theorem load_dot {w : World} {b o : Nat} {x : Dt} (h0 : w.cell? ⟨b, o, none⟩ = some (.int .i64 x.1)) (h1 : w.cell? ⟨b, o + 1, none⟩ = some (.int .i64 x.2)) : (Instr.loadAt 48 (.pointer (some ⟨b, o, none⟩))).run Tryz.prog w = .ok (dv x) w := by
  go_simp
theorem tree_load {P : Program} {Q : Exit → Act → World → Prop} {S : World → Prop} {l : List Oper} {i : Nat} {op : Oper} {r : Sch.Tr} {a : Act} {w : World} (t : TypeId) (x : Operand) (ad v : Value) (a' : Act)
    (ho : Sch.nth l i = some op) (hop : op.op = .load t x) (hw : Region.wanted op (yielded l.toArray a.tmps) = true) (hx : a.eval x = ad)
    (hr : ∀ w, S w → (Instr.loadAt t ad).run P w = .ok v w) (he : a.put op.dst v = a') (h : Sch.heldT P l.toArray Q S r a' w) : Sch.heldT P l.toArray Q S (.take i r) a w := by
  subst he
  subst hx
  refine Sch.tree_q ho hw fun K hK => ⟨v, fun w hS => ?_, hK _ h⟩
  unfold Oper.quietAt execOp
  rw [hop]
  simp only [Sem.run_bind, hr w hS, Result.andThen_ok]
  exact ⟨rfl, rfl⟩
/-- A world in which all that lay in another one lies as it did. -/
def Bel (w0 w : World) : Prop := Below w0.heap.size w0 w
end Go.Proofs.YtgopkffgljiblaaGreat.D
end

/-
  Trees of orders with a rest that several orders share.
-/
section
namespace Go.Proofs.YtgopkffgljiblaaGreat.Sch2
open Go Sch
set_option linter.unusedVariables false

section
variable {P : Program} {ops : Array Oper} {Q : Exit → Act → World → Prop} {md : Region.Mode} {S : World → Prop}

/-! ### Orders that part in two -/
inductive Tr2 where
  | done
  | take (i : Nat) (r : Tr2)
  | one (i : Nat) (r : Tr2)
  | two (i : Nat) (r : Tr2) (j : Nat) (s : Tr2)
  | rest (n : Nat) (l : List Bool)
def Tr2.dep : Tr2 → Nat
  | .done => 0
  | .take _ r => r.dep + 1
  | .one _ r => r.dep + 1
  | .two _ r _ _ => r.dep + 1
  | .rest n _ => n
def heldT2 (P : Program) (ops : Array Oper) (Q : Exit → Act → World → Prop) (S : World → Prop) : Tr2 → Act → World → Prop
  | .done, a, w => Q .normal a w
  | .take i r, a, w => stepQ P ops S i (heldT2 P ops Q S r) a w
  | .one i r, a, w => stepE P ops Q S i (heldT2 P ops Q S r) a w
  | .two i r j s, a, w => stepE P ops Q S i (heldT2 P ops Q S r) a w ∧ stepE P ops Q S j (heldT2 P ops Q S s) a w
  | .rest n l, a, w => wpAnyH P .any ops Q S n l.toArray a w
def okT2 (md : Region.Mode) (ops : Array Oper) : Tr2 → Array Bool → Bool
  | .done, listed => decide (Region.ready md ops listed = [])
  | .take i r, listed => (match ops[i]? with | some o => calm o.op | none => false) && (Region.ready md ops listed).contains i && Region.free md ops listed i && okT2 md ops r (listed.setIfInBounds i true)
  | .one i r, listed => decide (Region.ready md ops listed = [i]) && okT2 md ops r (listed.setIfInBounds i true)
  | .two i r j s, listed => decide (Region.ready md ops listed = [i, j]) && decide (r.dep = s.dep) && okT2 md ops r (listed.setIfInBounds i true) && okT2 md ops s (listed.setIfInBounds j true)
  | .rest n l, listed => decide (listed.toList = l)

theorem wpAnyH_of_heldT2 (hs : Region.noSelect ops = true) (hQ : ∀ c a d v w, Q (.panic c) (Act.put a d v) w → Q (.panic c) a w) :
    ∀ (t : Tr2) (listed : Array Bool) (a : Act) (w : World), okT2 .any ops t listed = true → S w → heldT2 P ops Q S t a w → wpAnyH P .any ops Q S t.dep listed a w
  | .done, listed, a, w, hk, _, h => ⟨by simpa [okT2] using hk, h⟩
  | .take i r, listed, a, w, hk, hS, h => by
    simp only [okT2, Bool.and_eq_true] at hk
    obtain ⟨⟨⟨hc, hr⟩, hf⟩, hk'⟩ := hk
    unfold heldT2 stepQ at h
    rcases ho : ops[i]? with _ | o
    · simp only [ho] at hc
      cases hc
    · simp only [ho] at hc h
      by_cases hw : Region.wanted o (yielded ops a.tmps) = true
      · rw [if_pos hw] at h
        obtain ⟨v, hy, hn⟩ := quiet_yields hc hw h
        exact wpAnyH_take ho hs hf hr (fun c a w => hQ c a _ _ w) hy hS (wpAnyH_of_heldT2 hs hQ r _ _ w hk' hS hn)
      · rw [if_neg hw] at h
        exact wpAnyH_take ho hs hf hr (fun c a w => hQ c a _ _ w) (v := undef) (.inr ⟨by simpa using hw, rfl⟩) hS (wpAnyH_of_heldT2 hs hQ r _ _ w hk' hS h)
  | .one i r, listed, a, w, hk, hS, h => by
    simp only [okT2, Bool.and_eq_true, decide_eq_true_eq] at hk
    obtain ⟨hr, hk'⟩ := hk
    unfold heldT2 stepE at h
    refine wpAnyH_all hr (by simp) fun j hj => ?_
    have hj' : j = i := by simpa using hj
    subst hj'
    rcases ho : ops[j]? with _ | o
    · simp only [ho] at h
    · simp only [ho] at h
      unfold wpOp
      simp only [ho]
      by_cases hw : Region.wanted o (yielded ops a.tmps) = true
      · rw [if_pos hw] at h
        rw [if_pos hw]
        exact .inl (Oper.wp_mono (fun a' w' ⟨hS', h'⟩ => ⟨hS', wpAnyH_of_heldT2 hs hQ r _ _ w' hk' hS' h'⟩) h)
      · rw [if_neg hw] at h
        rw [if_neg hw]
        exact ⟨hS, wpAnyH_of_heldT2 hs hQ r _ _ w hk' hS h⟩
  | .two i r k s, listed, a, w, hk, hS, h => by
    simp only [okT2, Bool.and_eq_true, decide_eq_true_eq] at hk
    obtain ⟨⟨⟨hr, hd⟩, hk1⟩, hk2⟩ := hk
    unfold heldT2 stepE at h
    refine wpAnyH_all hr (by simp) fun j hj => ?_
    have hj' : j = i ∨ j = k := by simpa using hj
    rcases hj' with rfl | rfl
    · have h := h.1
      rcases ho : ops[j]? with _ | o
      · simp only [ho] at h
      · simp only [ho] at h
        unfold wpOp
        simp only [ho]
        by_cases hw : Region.wanted o (yielded ops a.tmps) = true
        · rw [if_pos hw] at h
          rw [if_pos hw]
          exact .inl (Oper.wp_mono (fun a' w' ⟨hS', h'⟩ => ⟨hS', wpAnyH_of_heldT2 hs hQ r _ _ w' hk1 hS' h'⟩) h)
        · rw [if_neg hw] at h
          rw [if_neg hw]
          exact ⟨hS, wpAnyH_of_heldT2 hs hQ r _ _ w hk1 hS h⟩
    · have h := h.2
      rcases ho : ops[j]? with _ | o
      · simp only [ho] at h
      · simp only [ho] at h
        unfold wpOp
        simp only [ho, hd]
        by_cases hw : Region.wanted o (yielded ops a.tmps) = true
        · rw [if_pos hw] at h
          rw [if_pos hw]
          exact .inl (Oper.wp_mono (fun a' w' ⟨hS', h'⟩ => ⟨hS', wpAnyH_of_heldT2 hs hQ s _ _ w' hk2 hS' h'⟩) h)
        · rw [if_neg hw] at h
          rw [if_neg hw]
          exact ⟨hS, wpAnyH_of_heldT2 hs hQ s _ _ w hk2 hS h⟩
  | .rest n l, listed, a, w, hk, hS, h => by
    simp only [okT2, decide_eq_true_eq] at hk
    subst hk
    exact h

/-- The checks of a region and a tree of orders, as one Bool. -/
def okAllT2 (ops : Array Oper) (t : Tr2) : Bool :=
  Region.noSelect ops && decide (t.dep = ops.size) && okT2 .any ops t (Array.replicate ops.size false)

theorem wp_region_tree2 {l : List Oper} (S : World → Prop) (t : Tr2) {id : Nat} {a : Act} {w : World} (hm : P.follows .mixedOrders = true) (hk : okAllT2 l.toArray t = true)
    (hS : S w.drew) (h : heldT2 P l.toArray (NoPanic Q) S t a w.drew) : (Code.region id l.toArray true).wp P Q a w := by
  simp only [okAllT2, Bool.and_eq_true, decide_eq_true_eq] at hk
  obtain ⟨⟨hs, hl⟩, hk'⟩ := hk
  have := wpAnyH_of_heldT2 (Q := NoPanic Q) hs (fun _ _ _ _ _ h => h) t _ a w.drew hk' hS h
  rw [hl] at this
  exact wp_region_noPanic (wp_region_held hm this)

section
variable {l : List Oper} {i j : Nat} {o o2 : Oper} {r s : Tr2} {a : Act} {w : World}
theorem tree_q2 (ho : nth l i = some o) (hw : Region.wanted o (yielded l.toArray a.tmps) = true) (h : ∀ K : Act → Prop, (∀ a', heldT2 P l.toArray Q S r a' w → K a') → o.quiet P a S K) :
    heldT2 P l.toArray Q S (.take i r) a w := by
  unfold heldT2 stepQ
  simp only [nth_at, ho]
  rw [if_pos hw]
  exact h _ fun _ h => h
theorem tree_s2 (a' : Act) (ho : nth l i = some o) (hw : Region.wanted o (yielded l.toArray a.tmps) = false) (he : a.put o.dst undef = a') (h : heldT2 P l.toArray Q S r a' w) :
    heldT2 P l.toArray Q S (.take i r) a w := by
  subst he
  unfold heldT2 stepQ
  simp only [nth_at, ho]
  rw [if_neg (by simp [hw])]
  exact h
theorem tree_e2 (ho : nth l i = some o) (hw : Region.wanted o (yielded l.toArray a.tmps) = true) (h : ∀ K : Act → World → Prop, (∀ a' w', S w' → heldT2 P l.toArray Q S r a' w' → K a' w') → o.wp P a w K Q) :
    heldT2 P l.toArray Q S (.one i r) a w := by
  unfold heldT2 stepE
  simp only [nth_at, ho]
  rw [if_pos hw]
  exact h _ fun a' w' h1 h2 => ⟨h1, h2⟩
theorem tree_se2 (a' : Act) (ho : nth l i = some o) (hw : Region.wanted o (yielded l.toArray a.tmps) = false) (he : a.put o.dst undef = a') (h : heldT2 P l.toArray Q S r a' w) :
    heldT2 P l.toArray Q S (.one i r) a w := by
  subst he
  unfold heldT2 stepE
  simp only [nth_at, ho]
  rw [if_neg (by simp [hw])]
  exact h
theorem tree_two2 (h1 : heldT2 P l.toArray Q S (.one i r) a w) (h2 : heldT2 P l.toArray Q S (.one j s) a w) : heldT2 P l.toArray Q S (.two i r j s) a w := ⟨h1, h2⟩
theorem tree_n2 (h : Q .normal a w) : heldT2 P l.toArray (NoPanic Q) S .done a w := NoPanic.normal h
theorem tree_conv2 (st d : TypeId) (x : Operand) (v : Value) (a' : Act) (ho : nth l i = some o) (hop : o.op = .convert st d x) (hw : Region.wanted o (yielded l.toArray a.tmps) = true)
    (hr : ∀ w, S w → (convert st d (a.eval x)).run P w = .ok v w) (he : a.put o.dst v = a') (h : heldT2 P l.toArray Q S r a' w) :
    heldT2 P l.toArray Q S (.take i r) a w := by
  subst he
  refine tree_q2 ho hw fun K hK => ⟨v, fun w hS => ?_, hK _ h⟩
  unfold Oper.quietAt execOp
  rw [hop]
  simp only [Sem.run_bind, hr w hS, Result.andThen_ok]
  exact ⟨rfl, rfl⟩
end
end

section
variable {P : Program} {Q : Exit → Act → World → Prop} {S : World → Prop} {l : List Oper} {a : Act} {w : World}
/-- A load whose outcome the class gives. -/
theorem tree_load2 {i : Nat} {op : Oper} {r : Tr2} (t : TypeId) (x : Operand) (ad v : Value) (a' : Act)
    (ho : Sch.nth l i = some op) (hop : op.op = .load t x) (hw : Region.wanted op (yielded l.toArray a.tmps) = true) (hx : a.eval x = ad)
    (hr : ∀ w, S w → (Instr.loadAt t ad).run P w = .ok v w) (he : a.put op.dst v = a') (h : heldT2 P l.toArray Q S r a' w) : heldT2 P l.toArray Q S (.take i r) a w := by
  subst he
  subst hx
  refine tree_q2 ho hw fun K hK => ⟨v, fun w hS => ?_, hK _ h⟩
  unfold Oper.quietAt execOp
  rw [hop]
  simp only [Sem.run_bind, hr w hS, Result.andThen_ok]
  exact ⟨rfl, rfl⟩
/-- What comes behind a rest. -/
theorem go_on (t : Tr2) (n : Nat) (L0 : List Bool) (hs : Region.noSelect l.toArray = true) (hd : t.dep = n) (hk : okT2 .any l.toArray t L0.toArray = true) (hS : S w) (h : heldT2 P l.toArray (NoPanic Q) S t a w) :
    wpAnyH P .any l.toArray (NoPanic Q) S n L0.toArray a w := by
  subst hd
  exact wpAnyH_of_heldT2 hs (fun _ _ _ _ _ h => h) t _ a w hk hS h
/-- A rest that several orders share: proved once. -/
theorem share {L : Array Oper} {t : Tr2} (n : Nat) (L0 : List Bool) {X : Type} (upd : X → Act → Act) (pre : X → World → Prop)
    (key : ∀ x W, pre x W → wpAnyH P .any L Q S n L0.toArray (upd x a) W) (h : (∀ x W, pre x W → wpAnyH P .any L Q S n L0.toArray (upd x a) W) → heldT2 P L Q S t a w) : heldT2 P L Q S t a w := h key
end
end Go.Proofs.YtgopkffgljiblaaGreat.Sch2
end
