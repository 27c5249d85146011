/-
  Regions whose orders are told by states: which operations have come up is a number, what holds then a family.
-/
import Derived.Test.YteojbekkbgcmnabMSched

section
namespace Go.Proofs.Yteojbekkbgcmnab.Sch
open Go
set_option linter.unusedVariables false
section
variable {P : Program} {Q : Exit → Act → World → Prop} {md : Region.Mode} {S : World → Prop} {ops : Array Oper}

/-- The states 0 .. m (m the last): what is listed in each, and the moves (operation, state). -/
def okJ (md : Region.Mode) (ops : Array Oper) (L : Nat → List Bool) (T : Nat → List (Nat × Nat)) (m : Nat) : Bool :=
  (List.range m).all fun s => decide (Region.ready md ops (L s).toArray = (T s).map (·.1)) && !(T s).isEmpty && (T s).all fun x => decide (s < x.2) && decide (x.2 ≤ m) && decide (L x.2 = (L s).set x.1 true) && decide ((L s).count false = (L x.2).count false + 1)
theorem wpAnyH_states {L : Nat → List Bool} {T : Nat → List (Nat × Nat)} {m : Nat} (hk : okJ md ops L T m = true) (J : Nat → Act → World → Prop)
    (hstep : ∀ s, s < m → ∀ x ∈ T s, ∀ a w, S w → J s a w → stepE P ops Q S x.1 (J x.2) a w)
    (hend : ∀ a w, S w → J m a w → wpAnyH P md ops Q S ((L m).count false) (L m).toArray a w) :
    ∀ (d s : Nat), s ≤ m → m - s ≤ d → ∀ a w, S w → J s a w → wpAnyH P md ops Q S ((L s).count false) (L s).toArray a w := by
  intro d
  induction d with
  | zero =>
    intro s hs hd a w hS hJ
    obtain rfl : s = m := by omega
    exact hend a w hS hJ
  | succ d ih =>
    intro s hs hd a w hS hJ
    by_cases e : s = m
    · subst e; exact hend a w hS hJ
    · have hk2 := List.all_eq_true.1 hk s (List.mem_range.2 (by omega))
      simp only [Bool.and_eq_true, decide_eq_true_eq, Bool.not_eq_true', List.isEmpty_eq_false_iff] at hk2
      obtain ⟨⟨h1, h2⟩, h3⟩ := hk2
      rcases hT : T s with _ | ⟨x0, xs⟩
      · exact absurd hT h2
      · have h4 := List.all_eq_true.1 h3 x0 (by rw [hT]; simp)
        simp only [Bool.and_eq_true, decide_eq_true_eq] at h4
        rw [h4.2]
        refine wpAnyH_all h1 (by rw [hT]; simp) fun i hi => ?_
        obtain ⟨x, hx, rfl⟩ := List.mem_map.1 hi
        have h5 := List.all_eq_true.1 h3 x hx
        simp only [Bool.and_eq_true, decide_eq_true_eq] at h5
        obtain ⟨⟨⟨h6, h7⟩, h8⟩, h9⟩ := h5
        refine wpOp_of_stepE (hstep s (by omega) x hx a w hS hJ) hS fun a' w' hS' h' => ?_
        have := ih x.2 h7 (by omega) a' w' hS' h'
        have e1 : (L x0.2).count false = (L x.2).count false := by omega
        rw [e1]
        have e2 : (L s).toArray.setIfInBounds x.1 true = (L x.2).toArray := by rw [h8]; simp
        rw [e2]
        exact this
/-- The checks, as one Bool: the first operation p is taken first, the states, the tree behind the last one. -/
def okAllJ (ops : Array Oper) (p : Nat) (L : Nat → List Bool) (T : Nat → List (Nat × Nat)) (m : Nat) (t : Tn) : Bool :=
  Region.noSelect ops && (Region.ready .any ops (Array.replicate ops.size false)).contains p && Region.free .any ops (Array.replicate ops.size false) p && decide (L 0 = (List.replicate ops.size false).set p true) && decide ((L 0).count false + 1 = ops.size) && okJ .any ops L T m && decide (t.dep = (L m).count false) && okN .any ops t (L m).toArray
theorem wp_region_states {l : List Oper} (S : World → Prop) (p : Nat) (L : Nat → List Bool) (T : Nat → List (Nat × Nat)) (m : Nat) (t : Tn) {id : Nat} {a : Act} {w : World} (hm : P.follows .mixedOrders = true) (hk : okAllJ l.toArray p L T m t = true)
    (J : Nat → Act → World → Prop) (hS : S w.drew) (h0 : stepV P l.toArray S p (J 0) a w.drew)
    (hstep : ∀ s, s < m → ∀ x ∈ T s, ∀ a w, S w → J s a w → stepE P l.toArray (NoPanic Q) S x.1 (J x.2) a w)
    (hend : ∀ a w, S w → J m a w → heldN P l.toArray (NoPanic Q) S t a w) : (Code.region id l.toArray true).wp P Q a w := by
  simp only [okAllJ, Bool.and_eq_true, decide_eq_true_eq] at hk
  obtain ⟨⟨⟨⟨⟨⟨⟨k1, k2⟩, k3⟩, k4⟩, k5⟩, k6⟩, k7⟩, k8⟩ := hk
  have main : ∀ a w, S w → J 0 a w → wpAnyH P .any l.toArray (NoPanic Q) S ((L 0).count false) (L 0).toArray a w :=
    wpAnyH_states k6 J hstep (fun a w hS hJ => by
      rw [← k7]
      exact wpAnyH_of_heldN (Q := NoPanic Q) k1 (fun _ _ _ _ _ h => h) t _ a w k8 hS (hend a w hS hJ)) m 0 (Nat.zero_le _) (by omega)
  have : wpAnyH P .any l.toArray (NoPanic Q) S l.toArray.size (Array.replicate l.toArray.size false) a w.drew := by
    rw [← k5]
    unfold stepV at h0
    have e2 : (Array.replicate l.toArray.size false).setIfInBounds p true = (L 0).toArray := by rw [k4, ← List.setIfInBounds_toArray, List.toArray_replicate]
    rcases ho : l.toArray[p]? with _ | o
    · rw [ho] at h0; exact h0.elim
    · rw [ho] at h0
      simp only at h0
      rw [← k5] at e2 k2 k3
      by_cases hw : Region.wanted o (yielded l.toArray a.tmps) = true
      · rw [if_pos hw] at h0
        obtain ⟨v, hy, hn⟩ := h0
        refine wpAnyH_take ho k1 k3 k2 (fun c a w h => h) (.inl ⟨hw, hy⟩) hS ?_
        rw [e2]
        exact main _ _ hS hn
      · rw [if_neg hw] at h0
        refine wpAnyH_take ho k1 k3 k2 (fun c a w h => h) (v := undef) (.inr ⟨by simpa using hw, rfl⟩) hS ?_
        rw [e2]
        exact main _ _ hS h0
  exact wp_region_noPanic (wp_region_held hm this)
end
end Go.Proofs.Yteojbekkbgcmnab.Sch
end

/-
  Regions whose orders are told by states, some of them with an operation that may be taken at once.
-/
section
namespace Go.Proofs.Yteojbekkbgcmnab.Sch
open Go
set_option linter.unusedVariables false
section
variable {P : Program} {Q : Exit → Act → World → Prop} {md : Region.Mode} {S : World → Prop} {ops : Array Oper}

/-- The good states G, of 0 .. m (m the last); those where an operation is taken at once (F); what is listed in each, and the moves. -/
def okK (md : Region.Mode) (ops : Array Oper) (G F : Nat → Bool) (L : Nat → List Bool) (T : Nat → List (Nat × Nat)) (m : Nat) : Bool :=
  (List.range m).all fun s => !(G s) || (!(T s).isEmpty && ((T s).all fun x => G x.2 && decide (s < x.2) && decide (x.2 ≤ m) && decide (L x.2 = (L s).set x.1 true) && decide ((L s).count false = (L x.2).count false + 1)) &&
    (if F s then (match T s with | [x] => (Region.ready md ops (L s).toArray).contains x.1 && Region.free md ops (L s).toArray x.1 | _ => false) else decide (Region.ready md ops (L s).toArray = (T s).map (·.1))))
theorem wpAnyH_statesK {G F : Nat → Bool} {L : Nat → List Bool} {T : Nat → List (Nat × Nat)} {m : Nat} (hs : Region.noSelect ops = true) (hk : okK md ops G F L T m = true) (J : Nat → Act → World → Prop)
    (hval : ∀ s, s < m → F s = true → ∀ x ∈ T s, ∀ a w, S w → J s a w → stepV P ops S x.1 (J x.2) a w)
    (hstep : ∀ s, s < m → F s = false → ∀ x ∈ T s, ∀ a w, S w → J s a w → stepE P ops (NoPanic Q) S x.1 (J x.2) a w)
    (hend : ∀ a w, S w → J m a w → wpAnyH P md ops (NoPanic Q) S ((L m).count false) (L m).toArray a w) :
    ∀ (d s : Nat), G s = true → s ≤ m → m - s ≤ d → ∀ a w, S w → J s a w → wpAnyH P md ops (NoPanic Q) S ((L s).count false) (L s).toArray a w := by
  intro d
  induction d with
  | zero =>
    intro s hg hs hd a w hS hJ
    obtain rfl : s = m := by omega
    exact hend a w hS hJ
  | succ d ih =>
    intro s hg hsm hd a w hS hJ
    by_cases e : s = m
    · subst e; exact hend a w hS hJ
    · have hk2 := List.all_eq_true.1 hk s (List.mem_range.2 (by omega))
      rw [hg] at hk2
      simp only [Bool.not_true, Bool.false_or, Bool.and_eq_true, Bool.not_eq_true', List.isEmpty_eq_false_iff] at hk2
      obtain ⟨⟨h2, h3⟩, h1⟩ := hk2
      rcases hT : T s with _ | ⟨x0, xs⟩
      · exact absurd hT h2
      · have h4 := List.all_eq_true.1 h3 x0 (by rw [hT]; simp)
        simp only [Bool.and_eq_true, decide_eq_true_eq] at h4
        rw [h4.2]
        rcases hF : F s with _ | _
        · rw [hF, if_neg (by decide), decide_eq_true_eq] at h1
          refine wpAnyH_all h1 (by rw [hT]; simp) fun i hi => ?_
          obtain ⟨x, hx, rfl⟩ := List.mem_map.1 hi
          have h5 := List.all_eq_true.1 h3 x hx
          simp only [Bool.and_eq_true, decide_eq_true_eq] at h5
          obtain ⟨⟨⟨⟨h10, h6⟩, h7⟩, h8⟩, h9⟩ := h5
          refine wpOp_of_stepE (hstep s (by omega) hF x hx a w hS hJ) hS fun a' w' hS' h' => ?_
          have := ih x.2 h10 h7 (by omega) a' w' hS' h'
          have e1 : (L x0.2).count false = (L x.2).count false := by omega
          rw [e1]
          have e2 : (L s).toArray.setIfInBounds x.1 true = (L x.2).toArray := by rw [h8]; simp
          rw [e2]
          exact this
        · rw [hF, if_pos rfl, hT] at h1
          rcases xs with _ | ⟨x1, xs⟩
          · simp only [Bool.and_eq_true] at h1
            obtain ⟨⟨⟨⟨h10, h6⟩, h7⟩, h8⟩, h9⟩ := h4
            have h0 := hval s (by omega) hF x0 (by rw [hT]; simp) a w hS hJ
            have e2 : (L s).toArray.setIfInBounds x0.1 true = (L x0.2).toArray := by rw [h8]; simp
            unfold stepV at h0
            rcases ho : ops[x0.1]? with _ | o
            · rw [ho] at h0; exact h0.elim
            · rw [ho] at h0
              simp only at h0
              by_cases hw : Region.wanted o (yielded ops a.tmps) = true
              · rw [if_pos hw] at h0
                obtain ⟨v, hy, hn⟩ := h0
                refine wpAnyH_take ho hs h1.2 h1.1 (fun c a w h => h) (.inl ⟨hw, hy⟩) hS ?_
                rw [e2]
                exact ih x0.2 h10 h7 (by omega) _ _ hS hn
              · rw [if_neg hw] at h0
                refine wpAnyH_take ho hs h1.2 h1.1 (fun c a w h => h) (v := undef) (.inr ⟨by simpa using hw, rfl⟩) hS ?_
                rw [e2]
                exact ih x0.2 h10 h7 (by omega) _ _ hS h0
          · simp at h1
def okAllK (ops : Array Oper) (G F : Nat → Bool) (L : Nat → List Bool) (T : Nat → List (Nat × Nat)) (m : Nat) (t : Tn) : Bool :=
  Region.noSelect ops && G 0 && decide (L 0 = List.replicate ops.size false) && okK .any ops G F L T m && decide (t.dep = (L m).count false) && okN .any ops t (L m).toArray
theorem wp_region_statesK {l : List Oper} (S : World → Prop) (G F : Nat → Bool) (L : Nat → List Bool) (T : Nat → List (Nat × Nat)) (m : Nat) (t : Tn) {id : Nat} {a : Act} {w : World} (hm : P.follows .mixedOrders = true) (hk : okAllK l.toArray G F L T m t = true)
    (J : Nat → Act → World → Prop) (hS : S w.drew) (h0 : J 0 a w.drew)
    (hval : ∀ s, s < m → F s = true → ∀ x ∈ T s, ∀ a w, S w → J s a w → stepV P l.toArray S x.1 (J x.2) a w)
    (hstep : ∀ s, s < m → F s = false → ∀ x ∈ T s, ∀ a w, S w → J s a w → stepE P l.toArray (NoPanic Q) S x.1 (J x.2) a w)
    (hend : ∀ a w, S w → J m a w → heldN P l.toArray (NoPanic Q) S t a w) : (Code.region id l.toArray true).wp P Q a w := by
  simp only [okAllK, Bool.and_eq_true, decide_eq_true_eq] at hk
  obtain ⟨⟨⟨⟨⟨k1, k2⟩, k4⟩, k6⟩, k7⟩, k8⟩ := hk
  have main := wpAnyH_statesK (P := P) (Q := Q) (S := S) k1 k6 J hval hstep (fun a w hS hJ => by
          rw [← k7]
          exact wpAnyH_of_heldN (Q := NoPanic Q) k1 (fun _ _ _ _ _ h => h) t _ a w k8 hS (hend a w hS hJ)) m 0 k2 (Nat.zero_le _) (by omega) a w.drew hS h0
  have : wpAnyH P .any l.toArray (NoPanic Q) S l.toArray.size (Array.replicate l.toArray.size false) a w.drew := by
    rw [k4, List.count_replicate_self, List.toArray_replicate] at main
    exact main
  exact wp_region_noPanic (wp_region_held hm this)
end
end Go.Proofs.Yteojbekkbgcmnab.Sch
end
