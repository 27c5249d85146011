/-
  A range over an iterator that keeps what is left in a cell of its own: what the caller owes.
-/
import Derived.Test.YtfemfmppjabdjaaDoorESplit
namespace Go.Proofs.YtfemfmppjabdjaaDoor.E
set_option linter.unusedVariables false
open Go.RowKit V Go.Sort D Go.Shelf

/-- How the body of a round may be left: at its end, or by a return. -/
def leftBy (B : Nat) (I Ix : World → Prop) (W : World) : Exit → Act → World → Prop
  | .normal, _, W' => KeepsFrom B W W' ∧ I W'
  | .ret, _, W' => KeepsFrom B W W' ∧ Ix W'
  | .exit _, _, _ => False
  | .goto _, _, _ => False
  | .panic _, _, _ => False
  | .outgrown, _, _ => False

/-- What may be put in the place of the loop's own two blocks. -/
def Rides (B : Nat) (I : World → Prop) : Prop := ∀ W l (o o' : Obj), I W → B ≤ l → W.heap[l]? = some o → o.isCells = false → I (W.putObj l o')

section
variable {P : Program} {n : Nat} {g : Operand} {ps : Array Tmp} {assign body : Code} {Q : Exit → Act → World → Prop} {a : Act} {w : World}
theorem range_split (h1 : 1 ≤ n) {gf : Nat} {lb : Array Value} (hg : a.eval g = .func (.func gf) #[] lb) (eg : ∀ args w, (callFunc gf args).run P w = .ok (.enter gf args) w) (hps : ps.size = 1)
    (S : List (List UInt8)) (s : List UInt8) (Bs : Nat) (hBs : Bs < w.heap.size)
    (I : List (List UInt8) → List UInt8 → World → Prop) (Ix : List (List UInt8) → World → Prop)
    (hI : ∀ pre r, Rides w.heap.size (I pre r)) (hIx : ∀ pre, Rides w.heap.size (Ix pre))
    (hset : ∀ pre r r' A, I pre r A → I pre r' (A.setCell ⟨Bs, 0, none⟩ (.string ⟨r'.toArray⟩)))
    (h0 : ∀ o o', I [] s ((w.alloc o).alloc o'))
    (hseq : ∀ (l : Nat) (J : List (List UInt8) → List UInt8 → World → Prop) (Jx : List (List UInt8) → World → Prop) (W : World), (∀ pre r A, J pre r A → I pre r A) →
      (∀ pre r r' A, J pre r A → J pre r' (A.setCell ⟨Bs, 0, none⟩ (.string ⟨r'.toArray⟩))) →
      (∀ pre x r A, J pre r A → pre ++ [x] <+: S → YieldAt Fence.wide (n - 1 - 1) P l #[.string ⟨x.toArray⟩] A fun e A' =>
        (e = .returned (.bool true) ∧ J (pre ++ [x]) r A') ∨ (e = .returned (.bool false) ∧ Jx (pre ++ [x]) A')) →
      J [] s W → CallsIn Fence.wide (n - 1) P gf (#[.func (.yield l) #[] #[]] ++ lb) W fun e W' => (∃ v, e = .returned v) ∧ ((∃ r, J S r W') ∨ (∃ pre, pre <+: S ∧ Jx pre W')))
    (a₁ : List UInt8 → Act)
    (hassign : ∀ (l : Nat) (x : List UInt8) (W : World) (K : Act → World → Prop), K (a₁ x) W →
      assign.wpIn (Fence.wide.inRound l) (n - 1 - 1) P (Exit.then K (fun _ _ _ => False)) { tmps := (ps.zip #[.string ⟨x.toArray⟩]).foldl (fun t (p, v) => t.setIfInBounds p v) a.tmps, defers := [] } W)
    (hbody : ∀ (l : Nat) (pre : List (List UInt8)) (x r : List UInt8) (W : World), I pre r W → pre ++ [x] <+: S → body.wpIn (Fence.wide.inRound l) (n - 1 - 1) P (leftBy w.heap.size (I (pre ++ [x]) r) (Ix (pre ++ [x])) W) (a₁ x) W)
    (hdone : ∀ (D : Nat) (r : List UInt8) (W : World), w.heap.size ≤ D → I S r W → W.heap[D]? = some (.deferred (some [])) → Q .normal { a with defers := { target := .collected D, args := #[] } :: a.defers } W)
    (hstop : ∀ (D : Nat) (pre : List (List UInt8)) (W : World), w.heap.size ≤ D → pre <+: S → Ix pre W → W.heap[D]? = some (.deferred (some [])) → Code.ret.wpIn Fence.wide n P Q { a with defers := { target := .collected D, args := #[] } :: a.defers } W) :
    (Code.rangeFunc g ps assign body).wpIn Fence.wide n P Q a w := by
  refine wpIn_rangeFunc fun fn hfn => ?_
  rw [show Fence.wide.round = none from rfl]
  -- the loop's record, by its state and what is pending
  obtain ⟨rc, hrc⟩ : ∃ rc : LoopState → Option Code → Loop, ∀ st pe, rc st pe = { state := st, pending := pe, fn, tmps := a.tmps, params := ps, assign, body, defers := w.heap.size } := ⟨_, fun _ _ => rfl⟩
  have hkeep : ∀ (A : World) (l : Nat) (o : Obj) (r' : List UInt8), w.heap.size ≤ l → A.heap[l]? = some o → (A.setCell ⟨Bs, 0, none⟩ (.string ⟨r'.toArray⟩)).heap[l]? = some o := fun A l o r' hl h => (Below.heap_setCell A ⟨Bs, 0, none⟩ _ l (fun e => by have e2 : l = Bs := e; omega)).trans h
  obtain ⟨W1, hW1⟩ : ∃ W1, W1 = (w.alloc (.deferred (some []))).alloc (.loop (rc .ready none)) := ⟨_, rfl⟩
  have hL1 : W1.heap[w.heap.size + 1]? = some (.loop (rc .ready none)) := by
    rw [hW1]
    have := World.alloc_heap_new (w.alloc (.deferred (some []))) (.loop (rc .ready none))
    rwa [World.size_alloc] at this
  have hK1 : W1.heap[w.heap.size]? = some (.deferred (some [])) := by
    rw [hW1]
    exact (Below.heap_alloc _ _ _ (by simp)).trans (World.alloc_heap_new w _)
  refine ⟨w.heap.size + 1, [{ target := .collected w.heap.size, args := #[] }], W1, { target := .fn (.func gf) lb, args := #[.func (.yield (w.heap.size + 1)) #[] #[]] }, W1, gf,
    #[.func (.yield (w.heap.size + 1)) #[] #[]] ++ lb, W1, by rw [hW1, hrc]; exact run_enterLoop_outer _ _ _ _ _, by simp only [resolve, hg]; simp [go_sem], fun _ _ => trivial, by simp [invoke, go_sem, eg], fun _ => h1, ?_⟩
  refine (hseq (w.heap.size + 1)
    (fun pre r A => I pre r A ∧ A.heap[w.heap.size + 1]? = some (.loop (rc .ready none)) ∧ A.heap[w.heap.size]? = some (.deferred (some [])))
    (fun pre A => Ix pre A ∧ A.heap[w.heap.size + 1]? = some (.loop (rc .done (some .ret))) ∧ A.heap[w.heap.size]? = some (.deferred (some [])))
    W1 (fun _ _ _ h => h.1) (fun pre r r' A h => ⟨hset pre r r' A h.1, hkeep A _ _ r' (by omega) h.2.1, hkeep A _ _ r' (Nat.le_refl _) h.2.2⟩) ?_ ⟨by rw [hW1]; exact h0 _ _, hL1, hK1⟩).mono ?_
  · -- one round
    rintro pre x r A ⟨hi, hl, hd⟩ hpre
    have hlt : w.heap.size + 1 < A.heap.size := (Array.getElem?_eq_some_iff.1 hl).1
    have hy := run_yield (P := P) (args := #[.string ⟨x.toArray⟩]) hl (by rw [hrc]; exact hps.symm)
    rw [hrc] at hy
    refine ⟨fn, _, assign, body, hy, roundIn_of_wpIn hfn (hassign _ x A _ ⟨_, run_beginRound hl (by rw [hrc]), ?_⟩)⟩
    obtain ⟨A2, hA2⟩ : ∃ A2, A2 = A.putObj (w.heap.size + 1) (.loop { rc .ready none with state := .busy }) := ⟨_, rfl⟩
    have hi2 : I pre r A2 := by rw [hA2]; exact hI pre r A _ _ _ hi (by omega) hl rfl
    have hl2 : A2.heap[w.heap.size + 1]? = some (.loop { rc .ready none with state := .busy }) := by rw [hA2]; exact World.putObj_heap_same hlt
    have hd2 : A2.heap[w.heap.size]? = some (.deferred (some [])) := by rw [hA2]; exact (World.putObj_heap_other (by omega)).trans hd
    rw [← hA2]
    refine wpIn_mono (hbody _ pre x r A2 hi2 hpre) fun e a3 A3 hp => ?_
    have ends : ∀ (jump : Option Code), KeepsFrom w.heap.size A2 A3 → A3.heap[w.heap.size + 1]? = some (.loop { rc .ready none with state := .busy }) ∧
        (Instr.endRound (w.heap.size + 1) jump).run P A3 = .ok (.bool jump.isNone) (A3.putObj (w.heap.size + 1) (.loop (rc (if jump.isNone then .ready else .done) jump))) ∧
        (A3.putObj (w.heap.size + 1) (.loop (rc (if jump.isNone then .ready else .done) jump))).heap[w.heap.size + 1]? = some (.loop (rc (if jump.isNone then .ready else .done) jump)) ∧
        (A3.putObj (w.heap.size + 1) (.loop (rc (if jump.isNone then .ready else .done) jump))).heap[w.heap.size]? = some (.deferred (some [])) := fun jump hk => by
      have h3 := hk.same _ _ (by omega) hl2 rfl
      have h4 := hk.same _ _ (Nat.le_refl _) hd2 rfl
      refine ⟨h3, ?_, World.putObj_heap_same (Array.getElem?_eq_some_iff.1 h3).1, (World.putObj_heap_other (by omega)).trans h4⟩
      have := run_endRound (P := P) jump h3
      rw [hrc] at this ⊢
      exact this
    cases e with
    | normal =>
      obtain ⟨h3, h4, h5, h6⟩ := ends none hp.1
      exact ⟨_, _, h4, .inl ⟨rfl, hI _ _ A3 _ _ _ hp.2 (by omega) h3 rfl, h5, h6⟩⟩
    | ret =>
      obtain ⟨h3, h4, h5, h6⟩ := ends (some .ret) hp.1
      exact ⟨_, _, h4, .inr ⟨rfl, hIx _ A3 _ _ _ hp.2 (by omega) h3 rfl, h5, h6⟩⟩
    | exit id => exact hp.elim
    | goto t => exact hp.elim
    | panic c => exact hp.elim
    | outgrown => exact hp.elim
  · -- behind the iterator
    rintro e W2 ⟨⟨v, rfl⟩, ⟨r, hi, hl, hd⟩ | ⟨pre, hpre, hi, hl, hd⟩⟩
    · have hend := run_endLoop (P := P) hl (by rw [hrc]; simp)
      rw [hrc] at hend
      exact ⟨none, _, hend, hdone _ r _ (Nat.le_refl _) (hI _ _ W2 _ _ _ hi (by omega) hl rfl) ((World.putObj_heap_other (by omega)).trans hd)⟩
    · have hend := run_endLoop (P := P) hl (by rw [hrc]; simp)
      rw [hrc] at hend
      exact ⟨some .ret, _, hend, hstop _ pre _ (Nat.le_refl _) hpre (hIx _ W2 _ _ _ hi (by omega) hl rfl) ((World.putObj_heap_other (by omega)).trans hd)⟩
end
end Go.Proofs.YtfemfmppjabdjaaDoor.E
