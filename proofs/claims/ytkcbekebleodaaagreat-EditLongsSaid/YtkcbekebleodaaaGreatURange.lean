/-
  A range over an iterator that ranges itself, in its own body, over another one, or writes blocks of its own: what the caller owes.
-/
import Derived.Test.YtkcbekebleodaaaGreatMUSeek
import Derived.RangeFuncNested
import Derived.RangeFuncBound
import Derived.RangeFuncCalls
import Derived.RangeFuncLeaves
import Derived.Shelf.RegionOpen
import Derived.OwnWalkIn
import Derived.TacticsInMore
import Derived.LoopNIn
import Derived.LoopIn
namespace Go.Proofs.YtkcbekebleodaaaGreat.Un
set_option linter.unusedVariables false
open Go.RowKit V Go.Shelf D Nd Qs Wk

/-- Whatever the round wants, at any depth. -/
theorem yieldAny {m m' : Nat} {P : Program} {l : Nat} {args : Array Value} {W : World} {R : Ending → World → Prop} (h : YieldAt Fence.wide m P l args W R) : YieldAt Fence.wide m' P l args W R := by
  obtain ⟨fn, tmps, assign, body, hy, hR⟩ := h
  exact ⟨fn, tmps, assign, body, hy, hR.1, fun c cs _ => hR.2 c cs (room_wide _)⟩
/-- What an iterator may turn: what is no cells, and rows of these kinds. -/
def Tu (tys : List TypeId) (o : Obj) : Prop := o.isCells = false ∨ ∃ vs t fr, o = .cells vs t fr ∧ t ∈ tys
/-- What I says stays, whatever is made, and whatever of these lies at or beyond B turns. -/
def AbF (tys : List TypeId) (B : Nat) (I : World → Prop) : Prop := ∀ A A' row, I A → A.grownBy A' row → (∀ r, row = some r → B ≤ r ∧ ∃ o : Obj, A.heap[r]? = some o ∧ Tu tys o) → I A'
section
variable {tys : List TypeId} {B C : Nat} {I K : World → Prop}
theorem AbF.mono (h : AbF tys B I) (hc : B ≤ C) : AbF tys C I := fun A A' row ha hg hr => h A A' row ha hg fun r e => ⟨Nat.le_trans hc (hr r e).1, (hr r e).2⟩
theorem AbF.put (h : AbF tys B I) {A : World} {l : Nat} {o : Obj} (o' : Obj) (ha : I A) (hl : B ≤ l) (ho : A.heap[l]? = some o) (hc : o.isCells = false) : I (A.putObj l o') :=
  h A _ (some l) ha (grownBy_putObj' A l o') fun r e => by cases e; exact ⟨hl, o, ho, .inl hc⟩
theorem AbF.alloc (h : AbF tys B I) {A : World} (o : Obj) (ha : I A) : I (A.alloc o) := h A _ none ha (World.grownBy_alloc A o none) fun r e => by cases e
theorem AbF.drew (h : AbF tys B I) {A : World} (ha : I A) : I A.drew := h A _ none ha (gb_drew (gb_refl A none)) fun r e => by cases e
theorem AbF.and (h : AbF tys B I) (k : AbF tys B K) : AbF tys B (fun A => I A ∧ K A) := fun A A' row ha hg hr => ⟨h A A' row ha.1 hg hr, k A A' row ha.2 hg hr⟩
theorem AbF.or (h : AbF tys B I) (k : AbF tys B K) : AbF tys B (fun A => I A ∨ K A) := fun A A' row ha hg hr => ha.imp (fun x => h A A' row x hg hr) fun x => k A A' row x hg hr
theorem AbF.const (p : Prop) : AbF tys B (fun _ => p) := fun _ _ _ h _ _ => h
/-- A block of cells of another kind lies as it lay. -/
theorem AbF.block {b : Nat} {vs : Array Value} {t : TypeId} {fr : Nat × Nat} (ht : t ∉ tys) : AbF tys B (fun A => A.heap[b]? = some (.cells vs t fr)) := fun A A' row ha hg hr => by
  refine (hg.block b (Array.getElem?_eq_some_iff.1 ha).1 fun e => ?_).trans ha
  obtain ⟨_, o', h1, h2⟩ := hr b e.symm
  rw [ha] at h1
  cases h1
  rcases h2 with h2 | ⟨vs', t', fr', h3, h4⟩
  · cases h2
  · cases h3; exact ht h4
theorem AbF.below (h : AbF tys B I) {A A' : World} (ha : I A) (hb : Below A.heap.size A A') : I A' := h A A' none ha (gb_below hb none) fun r e => by cases e
/-- A block below B lies as it lay. -/
theorem AbF.low {b : Nat} {o : Obj} (hb : b < B) : AbF tys B (fun A => A.heap[b]? = some o) := fun A A' row ha hg hr => by
  refine (hg.block b (Array.getElem?_eq_some_iff.1 ha).1 fun e => ?_).trans ha
  have := (hr b e.symm).1
  omega
end
/-- The blocks of these kinds that lie at or beyond C stay. -/
def Fx (ks : List TypeId) (C : Nat) (A A' : World) : Prop := ∀ b vs t fr, C ≤ b → t ∈ ks → A.heap[b]? = some (.cells vs t fr) → A'.heap[b]? = some (.cells vs t fr)
/-- What a round keeps. -/
def Kp (ks : List TypeId) (C : Nat) (A A' : World) : Prop := KeepsFrom C A A' ∧ Fx ks C A A'
section
variable {ks : List TypeId}
theorem Kp.trans {C : Nat} {A B D : World} (h : Kp ks C A B) (k : Kp ks C B D) : Kp ks C A D := ⟨h.1.trans k.1, fun b vs t fr hb ht ha => k.2 b vs t fr hb ht (h.2 b vs t fr hb ht ha)⟩
theorem Kp.mono {B C : Nat} {A A' : World} (h : Kp ks B A A') (hc : B ≤ C) : Kp ks C A A' := ⟨⟨h.1.size, fun k o hk ha ho => h.1.same k o (Nat.le_trans hc hk) ha ho⟩, fun b vs t fr hb ht ha => h.2 b vs t fr (Nat.le_trans hc hb) ht ha⟩
theorem Kp.bel {C : Nat} {A A' : World} (h : Below A.heap.size A A') : Kp ks C A A' :=
  ⟨⟨h.size, fun k o _ ha _ => (h.block k (Array.getElem?_eq_some_iff.1 ha).1).trans ha⟩, fun b vs t fr _ _ ha => (h.block b (Array.getElem?_eq_some_iff.1 ha).1).trans ha⟩
/-- One block of cells that is of no such kind may turn. -/
theorem Kp.gb {C g : Nat} {A A' : World} {vs : Array Value} {t : TypeId} {fr : Nat × Nat} (hg : A.grownBy A' (some g)) (hc : A.heap[g]? = some (.cells vs t fr)) (ht : t ∉ ks) : Kp ks C A A' := by
  have hne : ∀ (b : Nat) (o : Obj), A.heap[b]? = some o → (o.isCells = false ∨ ∃ vs t fr, o = .cells vs t fr ∧ t ∈ ks) → b ≠ g := by
    rintro b o hb ho rfl
    rw [hc] at hb
    cases hb
    rcases ho with ho | ⟨vs, t, fr, ho, ho2⟩
    · cases ho
    · cases ho; exact ht ho2
  exact ⟨⟨hg.size, fun k o _ ha ho => (hg.block k (Array.getElem?_eq_some_iff.1 ha).1 (by simpa using hne k o ha (.inl ho))).trans ha⟩,
    fun b vs t fr _ h2 ha => (hg.block b (Array.getElem?_eq_some_iff.1 ha).1 (by simpa using hne b _ ha (.inr ⟨_, _, _, rfl, h2⟩))).trans ha⟩
theorem Kp.gbLow {C g : Nat} {A A' : World} (hg : A.grownBy A' (some g)) (hc : g < C) : Kp ks C A A' :=
  ⟨⟨hg.size, fun k o hk ha _ => (hg.block k (Array.getElem?_eq_some_iff.1 ha).1 (by simp; omega)).trans ha⟩, fun b vs t fr hb _ ha => (hg.block b (Array.getElem?_eq_some_iff.1 ha).1 (by simp; omega)).trans ha⟩
theorem Kp.put {C l : Nat} {A : World} {o : Obj} (hc : l < C) : Kp ks C A (A.putObj l o) := Kp.gbLow (grownBy_putObj' A l o) hc
end

/-- The contract of an iterator that yields S; what it needs of the worlds is Q. -/
def SeqP {α : Type} (tys ks : List TypeId) (enc : α → Array Value) (gf : Nat) (lb : Array Value) (Q : World → Prop) (S : List α) (w : World) : Prop :=
  ∀ (n l : Nat) (J : List α → World → Prop) (Jx : World → Prop) (W : World), Below w.heap.size w W → l < W.heap.size → (∀ pre, AbF tys W.heap.size (J pre)) → AbF tys W.heap.size Jx → (∀ pre A, J pre A → Q A) → (∀ A, Jx A → Q A) →
    (∀ pre x A, J pre A → pre ++ [x] <+: S → YieldAt Fence.wide n Tryz.prog l (enc x) A fun e A' => Kp ks W.heap.size A A' ∧ ((e = .returned (.bool true) ∧ J (pre ++ [x]) A') ∨ (e = .returned (.bool false) ∧ Jx A'))) →
    J [] W → CallsIn Fence.wide n Tryz.prog gf (#[.func (.yield l) #[] #[]] ++ lb) W fun e W' => (∃ v, e = .returned v) ∧ (J S W' ∨ Jx W')

/-- How the body of a round may be left. -/
def leftP (ks : List TypeId) (B : Nat) (I : World → Prop) (Ix : Code → World → Prop) (W : World) : Exit → Act → World → Prop
  | .normal, _, W' => Kp ks B W W' ∧ I W'
  | .ret, _, W' => Kp ks B W W' ∧ Ix .ret W'
  | .exit id, _, W' => Kp ks B W W' ∧ Ix (.exit id) W'
  | .goto t, _, W' => Kp ks B W W' ∧ Ix (.goto t) W'
  | .panic _, _, _ => False
  | .outgrown, _, _ => False

section
variable {α : Type} {tys ks : List TypeId} {enc : α → Array Value} {n : Nat} {g : Operand} {ps : Array Tmp} {assign body : Code} {Q : Exit → Act → World → Prop} {a : Act} {w : World}
theorem range_own (h1 : 1 ≤ n) {gf : Nat} {lb : Array Value} (hg : a.eval g = .func (.func gf) #[] lb) (eg : ∀ args w, (callFunc gf args).run Tryz.prog w = .ok (.enter gf args) w) (hps : ps.size = 2)
    (S : List α) (N : World → Prop) (hseq : SeqP tys ks enc gf lb N S w) (henc : ∀ x, (enc x).size = 2)
    (I : List α → World → Prop) (Ix : Code → World → Prop) (hI : ∀ pre, AbF tys w.heap.size (I pre)) (hIx : ∀ c, AbF tys w.heap.size (Ix c)) (hN : ∀ pre A, I pre A → N A) (hNx : ∀ c A, Ix c A → N A) (h0 : I [] w)
    (a₁ : α → Nat → Act) (w₁ : α → World → World) (Bx : α → Nat → World → Prop) (hw₁ : ∀ x W, Below W.heap.size W (w₁ x W) ∧ Bx x W.heap.size (w₁ x W)) (hBx : ∀ x b A A' row, Bx x b A → A.grownBy A' row → (∀ r, row = some r → r < b) → Bx x b A')
    (hassign : ∀ (l : Nat) (x : α) (W : World) (K : Act → World → Prop) (g : Nat), g = W.heap.size → K (a₁ x g) (w₁ x W) →
      assign.wpIn (Fence.wide.inRound l) (n - 1 - 1) Tryz.prog (Exit.then K (fun _ _ _ => False)) { tmps := (ps.zip (enc x)).foldl (fun t (p, v) => t.setIfInBounds p v) a.tmps, defers := [] } W)
    (hbody : ∀ (l : Nat) (pre : List α) (x : α) (b : Nat) (W : World), I pre W → Bx x b W → w.heap.size ≤ b → pre ++ [x] <+: S → body.wpIn (Fence.wide.inRound l) (n - 1 - 1) Tryz.prog (leftP ks w.heap.size (I (pre ++ [x])) Ix W) (a₁ x b) W)
    (hdone : ∀ (D : Nat) (W : World), w.heap.size ≤ D → I S W → W.heap[D]? = some (.deferred (some [])) → Q .normal { a with defers := { target := .collected D, args := #[] } :: a.defers } W)
    (hstop : ∀ (D : Nat) (c : Code) (W : World), w.heap.size ≤ D → Ix c W → W.heap[D]? = some (.deferred (some [])) → c.wpIn Fence.wide n Tryz.prog Q { a with defers := { target := .collected D, args := #[] } :: a.defers } W) :
    (Code.rangeFunc g ps assign body).wpIn Fence.wide n Tryz.prog Q a w := by
  refine wpIn_rangeFunc fun fn hfn => ?_
  rw [show Fence.wide.round = none from rfl]
  obtain ⟨rc, hrc⟩ : ∃ rc : LoopState → Option Code → Loop, ∀ st pe, rc st pe = { state := st, pending := pe, fn, tmps := a.tmps, params := ps, assign, body, defers := w.heap.size } := ⟨_, fun _ _ => rfl⟩
  obtain ⟨W1, hW1⟩ : ∃ W1, W1 = (w.alloc (.deferred (some []))).alloc (.loop (rc .ready none)) := ⟨_, rfl⟩
  have hL1 : W1.heap[w.heap.size + 1]? = some (.loop (rc .ready none)) := by
    rw [hW1]
    have := World.alloc_heap_new (w.alloc (.deferred (some []))) (.loop (rc .ready none))
    rwa [World.size_alloc] at this
  have hK1 : W1.heap[w.heap.size]? = some (.deferred (some [])) := by
    rw [hW1]
    exact (Below.heap_alloc _ _ _ (by simp)).trans (World.alloc_heap_new w _)
  have hsz : W1.heap.size = w.heap.size + 1 + 1 := by rw [hW1]; simp
  have hb1 : Below w.heap.size w W1 := by rw [hW1]; exact ((Below.refl _ w).alloc (Nat.le_refl _) _).alloc (by simp) _
  have hI1 : I [] W1 := by rw [hW1]; exact (hI []).alloc _ ((hI []).alloc _ h0)
  refine ⟨w.heap.size + 1, [{ target := .collected w.heap.size, args := #[] }], W1, { target := .fn (.func gf) lb, args := #[.func (.yield (w.heap.size + 1)) #[] #[]] }, W1, gf,
    #[.func (.yield (w.heap.size + 1)) #[] #[]] ++ lb, W1, by rw [hW1, hrc]; exact run_enterLoop_outer _ _ _ _ _, by simp only [resolve, hg]; simp [go_sem], fun _ _ => trivial, by simp [invoke, go_sem, eg], fun _ => h1, ?_⟩
  refine (hseq (n - 1) (w.heap.size + 1)
    (fun pre A => I pre A ∧ A.heap[w.heap.size + 1]? = some (.loop (rc .ready none)) ∧ A.heap[w.heap.size]? = some (.deferred (some [])))
    (fun A => ∃ c, Ix c A ∧ A.heap[w.heap.size + 1]? = some (.loop (rc .done (some c))) ∧ A.heap[w.heap.size]? = some (.deferred (some [])))
    W1 hb1 (by omega)
    (fun pre => ((hI pre).mono (by omega)).and ((AbF.low (by omega)).and (AbF.low (by omega))))
    (fun A A' row ha hg' hr => by
      obtain ⟨c, h1, h2, h3⟩ := ha
      exact ⟨c, (hIx c).mono (show w.heap.size ≤ W1.heap.size by omega) A A' row h1 hg' hr, AbF.low (show w.heap.size + 1 < W1.heap.size by omega) A A' row h2 hg' hr, AbF.low (show w.heap.size < W1.heap.size by omega) A A' row h3 hg' hr⟩)
    (fun pre A h => hN pre A h.1) (fun A ⟨c, h, _⟩ => hNx c A h) ?_ ⟨hI1, hL1, hK1⟩).mono ?_
  · -- one round
    rintro pre x A ⟨hi, hl, hd⟩ hpre
    have hlt : w.heap.size + 1 < A.heap.size := (Array.getElem?_eq_some_iff.1 hl).1
    have hy := run_yield (P := Tryz.prog) (args := enc x) hl (by rw [hrc, henc]; exact hps.symm)
    rw [hrc] at hy
    obtain ⟨hwb, hwx⟩ := hw₁ x A
    obtain ⟨A1, hA1⟩ : ∃ A1, A1 = w₁ x A := ⟨_, rfl⟩
    rw [← hA1] at hwb hwx
    have hl1 : A1.heap[w.heap.size + 1]? = some (.loop (rc .ready none)) := (hwb.block _ hlt).trans hl
    have hd1 : A1.heap[w.heap.size]? = some (.deferred (some [])) := (hwb.block _ (by omega)).trans hd
    have hlt1 : w.heap.size + 1 < A1.heap.size := Nat.lt_of_lt_of_le hlt hwb.size
    refine yieldAny (m := n - 1 - 1) ⟨fn, _, assign, body, hy, roundIn_of_wpIn hfn (hassign _ x A _ _ rfl ?_)⟩
    rw [← hA1]
    refine ⟨_, run_beginRound hl1 (by rw [hrc]), ?_⟩
    obtain ⟨A2, hA2⟩ : ∃ A2, A2 = A1.putObj (w.heap.size + 1) (.loop { rc .ready none with state := .busy }) := ⟨_, rfl⟩
    have hi2 : I pre A2 := by rw [hA2]; exact (hI pre).put _ ((hI pre).below hi hwb) (by omega) hl1 rfl
    have hx2 : Bx x A.heap.size A2 := by
      rw [hA2]
      exact hBx x A.heap.size _ _ (some (w.heap.size + 1)) hwx (grownBy_putObj' _ _ _) fun r e => by cases e; exact hlt
    have hl2 : A2.heap[w.heap.size + 1]? = some (.loop { rc .ready none with state := .busy }) := by rw [hA2]; exact World.putObj_heap_same hlt1
    have hd2 : A2.heap[w.heap.size]? = some (.deferred (some [])) := by rw [hA2]; exact (World.putObj_heap_other (by omega)).trans hd1
    have hk2 : Kp ks W1.heap.size A A2 := (Kp.bel hwb).trans (by rw [hA2]; exact Kp.put (by omega))
    rw [← hA2]
    refine wpIn_mono (hbody _ pre x A.heap.size A2 hi2 hx2 (by omega) hpre) fun e a3 A3 hp => ?_
    have ends : ∀ (jump : Option Code), Kp ks w.heap.size A2 A3 → A3.heap[w.heap.size + 1]? = some (.loop { rc .ready none with state := .busy }) ∧
        (Instr.endRound (w.heap.size + 1) jump).run Tryz.prog A3 = .ok (.bool jump.isNone) (A3.putObj (w.heap.size + 1) (.loop (rc (if jump.isNone then .ready else .done) jump))) ∧
        (A3.putObj (w.heap.size + 1) (.loop (rc (if jump.isNone then .ready else .done) jump))).heap[w.heap.size + 1]? = some (.loop (rc (if jump.isNone then .ready else .done) jump)) ∧
        (A3.putObj (w.heap.size + 1) (.loop (rc (if jump.isNone then .ready else .done) jump))).heap[w.heap.size]? = some (.deferred (some [])) ∧
        Kp ks W1.heap.size A (A3.putObj (w.heap.size + 1) (.loop (rc (if jump.isNone then .ready else .done) jump))) := fun jump hk => by
      have h3 := hk.1.same _ _ (by omega) hl2 rfl
      have h4 := hk.1.same _ _ (Nat.le_refl _) hd2 rfl
      refine ⟨h3, ?_, World.putObj_heap_same (Array.getElem?_eq_some_iff.1 h3).1, (World.putObj_heap_other (by omega)).trans h4, (hk2.trans (hk.mono (by omega))).trans (Kp.put (by omega))⟩
      have := run_endRound (P := Tryz.prog) jump h3
      rw [hrc] at this ⊢
      exact this
    cases e with
    | normal =>
      obtain ⟨h3, h4, h5, h6, h7⟩ := ends none hp.1
      exact ⟨_, _, h4, h7, .inl ⟨rfl, (hI _).put _ hp.2 (by omega) h3 rfl, h5, h6⟩⟩
    | ret =>
      obtain ⟨h3, h4, h5, h6, h7⟩ := ends (some .ret) hp.1
      exact ⟨_, _, h4, h7, .inr ⟨rfl, .ret, (hIx _).put _ hp.2 (by omega) h3 rfl, h5, h6⟩⟩
    | exit id =>
      obtain ⟨h3, h4, h5, h6, h7⟩ := ends (some (.exit id)) hp.1
      exact ⟨_, _, h4, h7, .inr ⟨rfl, .exit id, (hIx _).put _ hp.2 (by omega) h3 rfl, h5, h6⟩⟩
    | goto t =>
      obtain ⟨h3, h4, h5, h6, h7⟩ := ends (some (.goto t)) hp.1
      exact ⟨_, _, h4, h7, .inr ⟨rfl, .goto t, (hIx _).put _ hp.2 (by omega) h3 rfl, h5, h6⟩⟩
    | panic c => exact hp.elim
    | outgrown => exact hp.elim
  · -- behind the iterator
    rintro e W2 ⟨⟨v, rfl⟩, ⟨hi, hl, hd⟩ | ⟨c, hi, hl, hd⟩⟩
    · have hend := run_endLoop (P := Tryz.prog) hl (by rw [hrc]; simp)
      rw [hrc] at hend
      exact ⟨none, _, hend, hdone _ _ (Nat.le_refl _) ((hI _).put _ hi (by omega) hl rfl) ((World.putObj_heap_other (by omega)).trans hd)⟩
    · have hend := run_endLoop (P := Tryz.prog) hl (by rw [hrc]; simp)
      rw [hrc] at hend
      exact ⟨some c, _, hend, hstop _ c _ (Nat.le_refl _) ((hIx c).put _ hi (by omega) hl rfl) ((World.putObj_heap_other (by omega)).trans hd)⟩
end
end Go.Proofs.YtkcbekebleodaaaGreat.Un
