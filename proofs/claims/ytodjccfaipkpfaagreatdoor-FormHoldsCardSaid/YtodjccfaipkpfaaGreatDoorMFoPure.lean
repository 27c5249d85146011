/-
  Layer 13, plainly: flaws, well-formed lists, the whole part of a store.
-/
import Derived.Test.YtodjccfaipkpfaaGreatDoorMNPure

section
namespace Go.Proofs.YtodjccfaipkpfaaGreatDoor.Fo
set_option linter.unusedVariables false
open D Nd Qs Wk

/-- A node whose parent is the root, or there and earlier. -/
def okN (l : List Nt) (n : Nt) : Bool := rootR n.2.1 || (match atS l n.2.1 with | none => false | some p => decide (p.2.2.1 < n.2.2.1))
/-- The flaw of a node of a list, of which the one before it is p. -/
def flawP (l : List Nt) (p : Option Nt) (n : Nt) : Int :=
  if validN n = false then 1 else if (match p with | none => false | some q => !less q.1 n.1) = true then 2 else if rootR n.2.1 = true then 0 else
  match atS l n.2.1 with | none => 3 | some q => if n.2.2.1 ≤ q.2.2.1 then 4 else 0
def flawN (l : List Nt) (i : Nat) : Int := match l[i]? with | none => 0 | some n => flawP l (if i = 0 then none else l[i - 1]?) n
def wellS (l : List Nt) : Bool := validS l && l.all (okN l)
theorem flaw_store {l : List Nt} (hv : validS l = true) {i : Nat} (hi : i < l.length) : flawN l i = if rootR l[i].2.1 = true then 0 else match atS l l[i].2.1 with | none => 3 | some q => if l[i].2.2.1 ≤ q.2.2.1 then 4 else 0 := by
  obtain ⟨h1, hs⟩ := validS_iff.1 hv
  unfold flawN
  rw [List.getElem?_eq_getElem hi]
  simp only
  unfold flawP
  rw [if_neg (by rw [h1 _ (List.getElem_mem hi)]; decide), if_neg]
  by_cases h0 : i = 0
  · rw [if_pos h0]; simp
  · rw [if_neg h0, List.getElem?_eq_getElem (by omega)]
    have h2 : less l[i - 1].1 l[i].1 = true := List.pairwise_iff_getElem.1 hs (i - 1) i (by omega) hi (by omega)
    simp [h2]
theorem flaw_ok {l : List Nt} (hv : validS l = true) {i : Nat} (hi : i < l.length) : flawN l i = 0 ↔ okN l l[i] = true := by
  rw [flaw_store hv hi]
  unfold okN
  cases hr : rootR l[i].2.1
  · simp only [Bool.false_eq_true, if_false, Bool.false_or]
    rcases ha : atS l l[i].2.1 with _ | q
    · simp
    · simp only
      rw [decide_eq_true_iff]
      split <;> constructor <;> intro h <;> first | omega | rfl
  · simp
theorem well_iff {l : List Nt} : wellS l = true ↔ ∀ i, i < l.length → flawN l i = 0 := by
  constructor
  · intro h i hi
    unfold wellS at h
    rw [Bool.and_eq_true, List.all_eq_true] at h
    exact (flaw_ok h.1 hi).2 (h.2 _ (List.getElem_mem hi))
  · intro h
    have hv : validS l = true := by
      refine validS_at (fun i hi => ?_) (fun i hi => ?_)
      · have h1 := h i hi
        unfold flawN flawP at h1
        rw [List.getElem?_eq_getElem hi] at h1
        simp only at h1
        cases hn : validN l[i]
        · rw [if_pos hn] at h1; cases h1
        · rfl
      · have h1 := h (i + 1) hi
        have e : flawN l (i + 1) = flawP l (some (l[i]'(by omega))) l[i + 1] := by
          unfold flawN
          rw [List.getElem?_eq_getElem hi]
          simp only [Nat.add_one_ne_zero, if_false, Nat.add_sub_cancel]
          rw [List.getElem?_eq_getElem (by omega)]
        rw [e] at h1
        unfold flawP at h1
        cases hn : validN l[i + 1]
        · rw [if_pos hn] at h1; cases h1
        · rw [if_neg (by rw [hn]; decide)] at h1
          cases hl : less (l[i]'(by omega)).1 l[i + 1].1
          · rw [if_pos (by simp only [hl]; rfl)] at h1
            cases h1
          · rfl
    unfold wellS
    rw [hv, Bool.true_and, List.all_eq_true]
    intro x hx
    obtain ⟨i, hi, rfl⟩ := List.mem_iff_getElem.1 hx
    exact (flaw_ok hv hi).1 (h i hi)
/-- A node without a flaw, and all above it. -/
inductive Up (l : List Nt) : Nt → Prop
  | root {n : Nt} (hr : rootR n.2.1 = true) : Up l n
  | step {n p : Nt} (hr : rootR n.2.1 = false) (ha : atS l n.2.1 = some p) (ht : p.2.2.1 < n.2.2.1) (hp : Up l p) : Up l n
def stF (l : List Nt) : Nat → Nt → Bool
  | 0, _ => false
  | k + 1, n => okN l n && (rootR n.2.1 || match atS l n.2.1 with | none => false | some p => stF l k p)
def stS (l : List Nt) (n : Nt) : Bool := stF l (l.length + 1) n
def wholeS (l : List Nt) : List Nt := l.filter (stS l)
theorem st_up {l : List Nt} : ∀ {k : Nat} {n : Nt}, stF l k n = true → Up l n
  | 0, n, h => by cases h
  | k + 1, n, h => by
    unfold stF okN at h
    cases hr : rootR n.2.1
    · rw [hr] at h
      simp only [Bool.false_or] at h
      rcases ha : atS l n.2.1 with _ | p
      · rw [ha] at h; cases h
      · rw [ha] at h
        simp only [Bool.and_eq_true, decide_eq_true_eq] at h
        exact .step hr ha h.1 (st_up h.2)
    · exact .root hr
theorem st_mono {l : List Nt} : ∀ {k m : Nat} {n : Nt}, stF l k n = true → k ≤ m → stF l m n = true
  | 0, m, n, h, _ => by cases h
  | k + 1, 0, n, h, hm => by omega
  | k + 1, m + 1, n, h, hm => by
    unfold stF at h ⊢
    rw [Bool.and_eq_true] at h ⊢
    refine ⟨h.1, ?_⟩
    cases hr : rootR n.2.1
    · rw [hr, Bool.false_or] at h
      rw [Bool.false_or]
      rcases ha : atS l n.2.1 with _ | p
      · rw [ha] at h; cases h.2
      · rw [ha] at h
        exact st_mono h.2 (by omega)
    · rfl
theorem up_st {l : List Nt} (hv : validS l = true) {n : Nt} (h : Up l n) : n ∈ l → ∃ p, Pt l n.1 p ∧ stF l p.length n = true := by
  obtain ⟨hvn, hs⟩ := validS_iff.1 hv
  induction h with
  | root hr =>
    intro hn
    rename_i n
    refine ⟨[n.1], pt_step hs hn (not_root (hvn _ hn)) (pt_root hr), ?_⟩
    show stF l 1 n = true
    unfold stF okN
    simp [hr]
  | step hr ha ht hp ih =>
    intro hn
    rename_i n p
    obtain ⟨hpl, e⟩ := at_some ha
    obtain ⟨q, hq, hst⟩ := ih hpl
    refine ⟨q ++ [n.1], pt_step hs hn (not_root (hvn _ hn)) (by rw [← e]; exact hq), ?_⟩
    rw [List.length_append, List.length_singleton]
    unfold stF okN
    simp [hr, ha, ht, hst]
theorem st_iff {l : List Nt} (hv : validS l = true) {n : Nt} (hn : n ∈ l) : stS l n = true ↔ Up l n := by
  constructor
  · exact st_up
  · intro h
    obtain ⟨p, hp, hst⟩ := up_st hv h hn
    exact st_mono hst (by have := pt_len hp; omega)
theorem mem_whole {l : List Nt} (hv : validS l = true) {x : Nt} : x ∈ wholeS l ↔ x ∈ l ∧ Up l x := by
  unfold wholeS
  rw [List.mem_filter]
  constructor
  · rintro ⟨h1, h2⟩; exact ⟨h1, (st_iff hv h1).1 h2⟩
  · rintro ⟨h1, h2⟩; exact ⟨h1, (st_iff hv h1).2 h2⟩
theorem whole_valid {l : List Nt} (hv : validS l = true) : validS (wholeS l) = true := by
  obtain ⟨h1, hs⟩ := validS_iff.1 hv
  refine validS_iff.2 ⟨fun x hx => h1 x ((List.mem_filter.1 hx).1), ?_⟩
  exact List.Pairwise.sublist List.filter_sublist hs
theorem whole_well {l : List Nt} (hv : validS l = true) : wellS (wholeS l) = true := by
  have hw := whole_valid hv
  unfold wellS
  rw [hw, Bool.true_and, List.all_eq_true]
  intro x hx
  obtain ⟨hxl, hu⟩ := (mem_whole hv).1 hx
  unfold okN
  cases hu with
  | root hr => rw [hr]; rfl
  | step hr ha ht hp =>
    rename_i p
    obtain ⟨hpl, e⟩ := at_some ha
    have h2 : p ∈ wholeS l := (mem_whole hv).2 ⟨hpl, hp⟩
    rw [← e, at_mem (validS_iff.1 hw).2 h2]
    simp [ht]
/-- What hangs together in itself stands. -/
theorem closed_up {l V : List Nt} (hv : validS l = true) (h : ∀ x ∈ V, x ∈ l ∧ (rootR x.2.1 = true ∨ ∃ p ∈ V, p.1 = x.2.1 ∧ p.2.2.1 < x.2.2.1)) : ∀ (k : Nat) (x : Nt), x ∈ V → x.2.2.1.toNat ≤ k → Up l x
  | 0, x, hx, hk => by
    have := (valid_vn.1 ((validS_iff.1 hv).1 x (h x hx).1)).2.2.2.1
    omega
  | k + 1, x, hx, hk => by
    obtain ⟨hxl, hr | ⟨p, hp, e, ht⟩⟩ := h x hx
    · exact .root hr
    · cases hr : rootR x.2.1
      · refine .step hr (p := p) ?_ ht (closed_up hv h k p hp ?_)
        · rw [← e]; exact at_mem (validS_iff.1 hv).2 (h p hp).1
        · have h1 := (valid_vn.1 ((validS_iff.1 hv).1 p (h p hp).1)).2.2.2.1
          omega
      · exact .root hr
theorem well_up {l : List Nt} (h : wellS l = true) : ∀ x ∈ l, Up l x := by
  unfold wellS at h
  rw [Bool.and_eq_true, List.all_eq_true] at h
  intro x hx
  refine closed_up (V := l) h.1 (fun y hy => ⟨hy, ?_⟩) x.2.2.1.toNat x hx (Nat.le_refl _)
  have h1 := h.2 y hy
  unfold okN at h1
  cases hr : rootR y.2.1
  · rw [hr, Bool.false_or] at h1
    rcases ha : atS l y.2.1 with _ | p
    · rw [ha] at h1; cases h1
    · rw [ha] at h1
      obtain ⟨hp, e⟩ := at_some ha
      exact .inr ⟨p, hp, e, of_decide_eq_true h1⟩
  · exact .inl rfl
theorem well_valid {l : List Nt} (h : wellS l = true) : validS l = true := by
  unfold wellS at h
  exact (Bool.and_eq_true _ _ ▸ h).1
theorem well_whole {l : List Nt} (h : wellS l = true) : wholeS l = l := by
  unfold wholeS
  rw [List.filter_eq_self]
  intro x hx
  exact (st_iff (well_valid h) hx).2 (well_up h x hx)
theorem whole_whole {l : List Nt} (hv : validS l = true) : wholeS (wholeS l) = wholeS l := well_whole (whole_well hv)
theorem up_pt {l : List Nt} (hv : validS l = true) {x : Nt} (hx : x ∈ l) (h : Up l x) : ∃ p, Pt l x.1 p := by
  obtain ⟨p, hp, -⟩ := up_st hv h hx
  exact ⟨p, hp⟩
theorem well_lost {l : List Nt} (h : wellS l = true) : lostS l = [] := by
  have hv := well_valid h
  refine List.eq_nil_iff_forall_not_mem.2 fun d hd => ?_
  obtain ⟨n, hn, hno, -⟩ := (mem_lost (validS_iff.1 hv).2).1 hd
  exact hno (up_pt hv hn (well_up h n hn))
theorem well_lack {l : List Nt} (h : wellS l = true) : lackS l = [] := by
  have hv := well_valid h
  refine List.eq_nil_iff_forall_not_mem.2 fun d hd => ?_
  obtain ⟨hr, ha, n, hn, e⟩ := mem_lack.1 hd
  have hu := well_up h n hn
  cases hu with
  | root hr2 => rw [e, hr] at hr2; cases hr2
  | step hr2 ha2 ht hp => rw [e, ha] at ha2; cases ha2
theorem whole_put {l : List Nt} (hv : validS l = true) {n : Nt} (hn : n ∈ l) (hno : atS (wholeS l) n.1 = none) : putN (wholeS l) n = (setS (wholeS l) n, 0) ∧ wellS (setS (wholeS l) n) = false := by
  refine ⟨by unfold putN; rw [hno], ?_⟩
  cases hw : wellS (setS (wholeS l) n)
  · rfl
  · exfalso
    have hwv := whole_valid hv
    have hs := (validS_iff.1 hwv).2
    have hm : n ∈ setS (wholeS l) n := (mem_setS hs).2 (.inl rfl)
    have hu := well_up hw n hm
    have hup : Up l n := by
      cases hu with
      | root hr => exact .root hr
      | step hr ha ht hp =>
        rename_i p
        obtain ⟨hpm, e⟩ := at_some ha
        rcases (mem_setS hs).1 hpm with h1 | ⟨h1, -⟩
        · rw [h1] at ht; omega
        · obtain ⟨hpl, hpu⟩ := (mem_whole hv).1 h1
          exact .step hr (by rw [← e]; exact at_mem (validS_iff.1 hv).2 hpl) ht hpu
    have h2 : n ∈ wholeS l := (mem_whole hv).2 ⟨hn, hup⟩
    rw [at_mem hs h2] at hno
    cases hno
end Go.Proofs.YtodjccfaipkpfaaGreatDoor.Fo
end

/-
  Layer 13, plainly: faults as loops lay them; what goes with a node, as rounds find it; chains.
-/
section
namespace Go.Proofs.YtodjccfaipkpfaaGreatDoor.Fo
set_option linter.unusedVariables false
open D Nd Qs Wk

/-! ### Faults -/
def faultT (l : List Nt) (k : Nat) : List Dt := ((List.range k).filter fun i => !decide (flawN l i = 0)).map fun (i : Nat) => ((i : Int), flawN l i)
def faultS (l : List Nt) : List Dt := faultT l l.length
def firstS (l : List Nt) : Dt := (faultS l).headD (-1, 0)
theorem fault_hit {l : List Nt} {k : Nat} (h : flawN l k ≠ 0) : faultT l (k + 1) = faultT l k ++ [((k : Int), flawN l k)] := by
  unfold faultT
  rw [List.range_succ, List.filter_append, List.map_append]
  simp [h]
theorem fault_miss {l : List Nt} {k : Nat} (h : flawN l k = 0) : faultT l (k + 1) = faultT l k := by
  unfold faultT
  rw [List.range_succ, List.filter_append, List.map_append]
  simp [h]
theorem fault_len (l : List Nt) (k : Nat) : (faultT l k).length ≤ k := by
  unfold faultT
  rw [List.length_map]
  exact Nat.le_trans (List.length_filter_le _ _) (by rw [List.length_range]; exact Nat.le_refl _)
theorem fault_none {l : List Nt} (h : ∀ i, i < l.length → flawN l i = 0) : faultS l = [] := by
  unfold faultS faultT
  rw [List.map_eq_nil_iff, List.filter_eq_nil_iff]
  intro i hi
  rw [List.mem_range] at hi
  simp [h i hi]
theorem fault_one {l : List Nt} {k : Nat} (hk : k < l.length) (h0 : flawN l k ≠ 0) (h : ∀ i, i < l.length → i ≠ k → flawN l i = 0) : faultS l = [((k : Int), flawN l k)] := by
  have h1 : ∀ j, j ≤ k → faultT l j = [] := by
    intro j
    induction j with
    | zero => intro _; rfl
    | succ j ih => intro hj; rw [fault_miss (h j (by omega) (by omega)), ih (by omega)]
  have h2 : ∀ j, k < j → j ≤ l.length → faultT l j = [((k : Int), flawN l k)] := by
    intro j
    induction j with
    | zero => intro hj; omega
    | succ j ih =>
      intro hj hl
      by_cases e : j = k
      · subst e; rw [fault_hit h0, h1 j (Nat.le_refl _)]; rfl
      · rw [fault_miss (h j (by omega) e), ih (by omega) (by omega)]
  exact h2 _ hk (Nat.le_refl _)
theorem well_fault {l : List Nt} : wellS l = true ↔ faultS l = [] := by
  rw [well_iff]
  constructor
  · exact fault_none
  · intro h i hi
    unfold faultS faultT at h
    rw [List.map_eq_nil_iff, List.filter_eq_nil_iff] at h
    have := h i (List.mem_range.2 hi)
    simpa using this
theorem well_len (l : List Nt) : wellS l = decide ((faultS l).length = 0) := by
  rcases h : wellS l with _ | _
  · symm
    rw [decide_eq_false_iff_not, List.length_eq_zero_iff]
    exact fun e => by rw [well_fault.2 e] at h; cases h
  · symm
    rw [decide_eq_true_iff, List.length_eq_zero_iff]
    exact well_fault.1 h

/-! ### The program's rounds -/
def flawT (l : List Nt) (k : Nat) : List Int := (List.range k).map (flawN l)
def flawB (l : List Nt) (k : Nat) : List Bool := (List.range k).map fun i => !decide (flawN l i = 0)
def upI (l : List Nt) (n : Nt) : Int := (idxG l n.2.1).getD (-1)
def upT (l : List Nt) (k : Nat) : List Int := (l.take k).map (upI l)
theorem flawT_len (l : List Nt) (k : Nat) : (flawT l k).length = k := by unfold flawT; simp
theorem flawT_at (l : List Nt) (k i : Nat) (h : i < (flawT l k).length) : (flawT l k)[i] = flawN l i := by
  unfold flawT at *
  rw [List.getElem_map, List.getElem_range]
theorem flawT_succ (l : List Nt) (k : Nat) : flawT l (k + 1) = flawT l k ++ [flawN l k] := by unfold flawT; rw [List.range_succ, List.map_append]; rfl
theorem flawB_len (l : List Nt) (k : Nat) : (flawB l k).length = k := by unfold flawB; simp
theorem flawB_at (l : List Nt) (k i : Nat) (h : i < (flawB l k).length) : (flawB l k)[i] = !decide (flawN l i = 0) := by
  unfold flawB at *
  rw [List.getElem_map, List.getElem_range]
theorem flawB_succ (l : List Nt) (k : Nat) : flawB l (k + 1) = flawB l k ++ [!decide (flawN l k = 0)] := by unfold flawB; rw [List.range_succ, List.map_append]; rfl
theorem upT_len (l : List Nt) : (upT l l.length).length = l.length := by unfold upT; simp
theorem upT_at (l : List Nt) (i : Nat) (h : i < (upT l l.length).length) (h2 : i < l.length) : (upT l l.length)[i] = upI l l[i] := by
  unfold upT at *
  simp
theorem upT_succ {l : List Nt} {k : Nat} (hk : k < l.length) : upT l (k + 1) = upT l k ++ [upI l l[k]] := by
  unfold upT
  rw [List.take_add_one, List.getElem?_eq_getElem hk, List.map_append]
  rfl
/-- What rounds keep: who is marked goes, who is not and stands at the top stands, and else hangs on who is earlier. -/
structure Gn (l : List Nt) (g : List Bool) (u : List Int) : Prop where
  gl : g.length = l.length
  ul : u.length = l.length
  dead : ∀ i (hg : i < g.length) (hi : i < l.length), g[i] = true → ¬ Up l l[i]
  top : ∀ i (hg : i < g.length) (hu : i < u.length) (hi : i < l.length), g[i] = false → u[i] = -1 → Up l l[i]
  mid : ∀ i (hg : i < g.length) (hu : i < u.length) (hi : i < l.length), g[i] = false → u[i] ≠ -1 → ∃ k, ∃ hk : k < l.length, u[i] = (k : Int) ∧ l[k].2.2.1 < l[i].2.2.1 ∧ (Up l l[i] ↔ Up l l[k])
theorem gn_start {l : List Nt} (hv : validS l = true) : Gn l (flawB l l.length) (upT l l.length) where
  gl := flawB_len _ _
  ul := upT_len _
  dead i hg hi h := by
    rw [flawB_at] at h
    intro hu
    have h2 : flawN l i ≠ 0 := by simpa using h
    apply h2
    rw [flaw_ok hv hi]
    unfold okN
    cases hu with
    | root hr => rw [hr]; rfl
    | step hr ha ht hp => rw [ha]; simp [ht]
  top i hg hu hi h h1 := by
    rw [flawB_at] at h
    rw [upT_at l i hu hi] at h1
    have h2 : flawN l i = 0 := by simpa using h
    rw [flaw_ok hv hi] at h2
    unfold okN at h2
    cases hr : rootR l[i].2.1
    · exfalso
      rw [hr, Bool.false_or] at h2
      unfold upI at h1
      rcases hx : idxG l l[i].2.1 with _ | z
      · rw [idxG_none.1 hx] at h2; cases h2
      · obtain ⟨k, hk, rfl, -, -⟩ := idxG_some hx
        rw [hx] at h1
        simp at h1
    · exact .root hr
  mid i hg hu hi h h1 := by
    rw [flawB_at] at h
    rw [upT_at l i hu hi] at h1 ⊢
    have h2 : flawN l i = 0 := by simpa using h
    rw [flaw_ok hv hi] at h2
    unfold okN at h2
    unfold upI at h1 ⊢
    rcases hx : idxG l l[i].2.1 with _ | z
    · rw [hx] at h1; exact absurd rfl h1
    · obtain ⟨k, hk, rfl, e, ha⟩ := idxG_some hx
      have hr : rootR l[i].2.1 = false := by
        cases hr : rootR l[i].2.1
        · rfl
        · exfalso
          have h3 := not_root ((validS_iff.1 hv).1 l[k] (List.getElem_mem hk))
          rw [e, hr] at h3
          cases h3
      rw [hr, Bool.false_or, ha] at h2
      have h3 := of_decide_eq_true h2
      refine ⟨k, hk, rfl, h3, ?_, fun hp => .step hr ha h3 hp⟩
      intro hup
      cases hup with
      | root hr2 => rw [hr] at hr2; cases hr2
      | step hr2 ha2 ht2 hp2 => rw [ha] at ha2; cases ha2; exact hp2
/-- One step of a round. -/
theorem gn_step {l : List Nt} {g : List Bool} {u : List Int} (h : Gn l g u) {i k : Nat} (hi : i < g.length) (hiu : i < u.length) (hk : k < g.length) (hku : k < u.length) (hg : g[i] = false) (hu : u[i] = (k : Int)) : Gn l (g.set i g[k]) (u.set i u[k]) := by
  have hil : i < l.length := h.gl ▸ hi
  have hne : u[i] ≠ -1 := by rw [hu]; omega
  obtain ⟨k', hk', e, ht, hup⟩ := h.mid i hi hiu hil hg hne
  obtain rfl : k = k' := by rw [hu] at e; omega
  refine ⟨by rw [List.length_set, h.gl], by rw [List.length_set, h.ul], ?_, ?_, ?_⟩
  · intro j hj hjl hjt
    rw [List.length_set] at hj
    rw [List.getElem_set] at hjt
    by_cases ej : i = j
    · subst ej
      rw [if_pos rfl] at hjt
      exact fun hh => h.dead k hk hk' hjt (hup.1 hh)
    · rw [if_neg ej] at hjt
      exact h.dead j hj hjl hjt
  · intro j hj hju hjl hjt hj1
    rw [List.length_set] at hj hju
    rw [List.getElem_set] at hjt hj1
    by_cases ej : i = j
    · subst ej
      rw [if_pos rfl] at hjt hj1
      exact hup.2 (h.top k hk hku hk' hjt hj1)
    · rw [if_neg ej] at hjt hj1
      exact h.top j hj hju hjl hjt hj1
  · intro j hj hju hjl hjt hj1
    rw [List.length_set] at hj hju
    rw [List.getElem_set] at hjt hj1 ⊢
    by_cases ej : i = j
    · subst ej
      rw [if_pos rfl] at hjt hj1 ⊢
      obtain ⟨m, hm, e2, ht2, hup2⟩ := h.mid k hk hku hk' hjt hj1
      exact ⟨m, hm, e2, by omega, hup.trans hup2⟩
    · rw [if_neg ej] at hjt hj1 ⊢
      exact h.mid j hj hju hjl hjt hj1
/-- A round so far: it has seen the first i nodes; m: something has gone. -/
structure Gr (l : List Nt) (g0 g : List Bool) (u : List Int) (m : Bool) (i : Nat) : Prop where
  b : Gn l g u
  same : m = false → g = g0
  fewer : m = true → g.count false < g0.count false
  done : m = false → ∀ j (hg : j < g.length) (hl : j < l.length), j < i → g[j] = false → Up l l[j] ∨ ∃ k, ∃ hk : k < l.length, ∃ hg2 : k < g.length, g[k] = false ∧ l[k].2.2.1 < l[j].2.2.1 ∧ (Up l l[j] ↔ Up l l[k])
theorem gr_start {l : List Nt} {g : List Bool} {u : List Int} (h : Gn l g u) : Gr l g g u false 0 := ⟨h, fun _ => rfl, (fun h => by cases h), fun _ j _ _ h => by omega⟩
theorem gr_skip1 {l : List Nt} {g0 g : List Bool} {u : List Int} {m : Bool} {i : Nat} (h : Gr l g0 g u m i) (hi : i < g.length) (hg : g[i] = true) : Gr l g0 g u m (i + 1) := ⟨h.b, h.same, h.fewer, fun hm j hj hl hji hgj => by
  by_cases e : j = i
  · subst e; rw [hg] at hgj; cases hgj
  · exact h.done hm j hj hl (by omega) hgj⟩
theorem gr_skip2 {l : List Nt} {g0 g : List Bool} {u : List Int} {m : Bool} {i : Nat} (h : Gr l g0 g u m i) (hi : i < g.length) (hu : i < u.length) (hg : g[i] = false) (h1 : u[i] = -1) : Gr l g0 g u m (i + 1) := ⟨h.b, h.same, h.fewer, fun hm j hj hl hji hgj => by
  by_cases e : j = i
  · subst e; exact .inl (h.b.top j hi hu hl hg h1)
  · exact h.done hm j hj hl (by omega) hgj⟩
theorem count_set {g : List Bool} {i : Nat} (hi : i < g.length) (hg : g[i] = false) : (g.set i true).count false < g.count false := by
  induction g generalizing i with
  | nil => simp at hi
  | cons a t ih =>
    cases i with
    | zero =>
      simp only [List.getElem_cons_zero] at hg
      subst hg
      simp
    | succ i =>
      simp only [List.getElem_cons_succ] at hg
      have := ih (by simpa using hi) hg
      simp only [List.set_cons_succ, List.count_cons]
      omega
theorem set_same {g : List Bool} {i : Nat} (hi : i < g.length) (hg : g[i] = false) : g.set i false = g := by
  apply List.ext_getElem
  · simp
  · intro j h1 h2
    rw [List.getElem_set]
    split
    · rename_i e; subst e; exact hg.symm
    · rfl
theorem gr_step {l : List Nt} {g0 g : List Bool} {u : List Int} {m : Bool} {i k : Nat} (h : Gr l g0 g u m i) (hi : i < g.length) (hiu : i < u.length) (hk : k < g.length) (hku : k < u.length) (hg : g[i] = false) (hu : u[i] = (k : Int)) : Gr l g0 (g.set i g[k]) (u.set i u[k]) (m || g[k]) (i + 1) := by
  have hb := gn_step h.b hi hiu hk hku hg hu
  have hil : i < l.length := h.b.gl ▸ hi
  obtain ⟨k', hk', e, ht, hup⟩ := h.b.mid i hi hiu hil hg (by rw [hu]; omega)
  obtain rfl : k = k' := by rw [hu] at e; omega
  cases hgk : g[k]
  · rw [hgk] at hb
    rw [set_same hi hg] at hb ⊢
    rw [Bool.or_false]
    refine ⟨hb, h.same, h.fewer, fun hm j hj hl hji hgj => ?_⟩
    by_cases e : j = i
    · subst e; exact .inr ⟨k, hk', hk, hgk, ht, hup⟩
    · exact h.done hm j hj hl (by omega) hgj
  · rw [hgk] at hb
    rw [Bool.or_true]
    refine ⟨hb, (fun h => by cases h), fun _ => ?_, (fun h => by cases h)⟩
    have h1 := count_set hi hg
    cases hm : m
    · rw [← h.same hm]; exact h1
    · have := h.fewer hm; omega
/-- What a round leaves in which nothing has gone. -/
theorem gr_end {l : List Nt} {g0 g : List Bool} {u : List Int} (hv : validS l = true) (h : Gr l g0 g u false l.length) : ∀ j (hg : j < g.length) (hl : j < l.length), g[j] = false → Up l l[j] := by
  have hp : ∀ x ∈ l, 1 ≤ x.2.2.1 := fun x hx => (valid_vn.1 ((validS_iff.1 hv).1 x hx)).2.2.2.1
  have main : ∀ (t : Nat) j (hg : j < g.length) (hl : j < l.length), l[j].2.2.1.toNat ≤ t → g[j] = false → Up l l[j] := by
    intro t
    induction t with
    | zero =>
      intro j hg hl ht hgj
      have := hp _ (List.getElem_mem hl)
      omega
    | succ t ih =>
      intro j hg hl ht hgj
      rcases h.done rfl j hg hl hl hgj with h1 | ⟨k, hk, hgk, hgf, hlt, hup⟩
      · exact h1
      · have := hp _ (List.getElem_mem hk)
        exact hup.2 (ih k hgk hk (by omega) hgf)
  intro j hg hl hgj
  exact main _ j hg hl (Nat.le_refl _) hgj
/-- What has gone in the end. -/
def goneS (l : List Nt) : List Bool := l.map fun n => !stS l n
theorem gone_is {l : List Nt} {g : List Bool} {u : List Int} (hv : validS l = true) (h : Gn l g u) (hd : ∀ j (hg : j < g.length) (hl : j < l.length), g[j] = false → Up l l[j]) : g = goneS l := by
  unfold goneS
  apply List.ext_getElem
  · rw [h.gl, List.length_map]
  · intro i h1 h2
    have hl : i < l.length := h.gl ▸ h1
    rw [List.getElem_map]
    have hs := st_iff hv (List.getElem_mem hl)
    cases hg : g[i]
    · rw [hs.2 (hd i h1 hl hg)]; rfl
    · have h3 := h.dead i h1 hl hg
      have h4 : stS l l[i] = false := by
        cases h5 : stS l l[i]
        · rfl
        · exact absurd (hs.1 h5) h3
      rw [h4]; rfl
theorem gone_len (l : List Nt) : (goneS l).length = l.length := by unfold goneS; simp
theorem gone_at (l : List Nt) (i : Nat) (h : i < (goneS l).length) (hl : i < l.length) : (goneS l)[i] = !stS l l[i] := by
  revert h
  unfold goneS
  intro h
  rw [List.getElem_map]
/-- The whole part of the first k nodes. -/
def wholeT (l : List Nt) (k : Nat) : List Nt := (l.take k).filter (stS l)
theorem whole_hit {l : List Nt} {k : Nat} (hk : k < l.length) (h : stS l l[k] = true) : wholeT l (k + 1) = wholeT l k ++ [l[k]] := by
  unfold wholeT
  rw [List.take_add_one, List.getElem?_eq_getElem hk, List.filter_append]
  simp [h]
theorem whole_miss {l : List Nt} {k : Nat} (hk : k < l.length) (h : stS l l[k] = false) : wholeT l (k + 1) = wholeT l k := by
  unfold wholeT
  rw [List.take_add_one, List.getElem?_eq_getElem hk, List.filter_append]
  simp [h]
theorem whole_all (l : List Nt) : wholeT l l.length = wholeS l := by unfold wholeT wholeS; rw [List.take_length]
theorem wholeT_len (l : List Nt) (k : Nat) : (wholeT l k).length ≤ k := by
  unfold wholeT
  exact Nat.le_trans (List.length_filter_le _ _) (by rw [List.length_take]; omega)
theorem whole_len (l : List Nt) : (wholeS l).length ≤ l.length := by
  unfold wholeS
  exact List.length_filter_le _ _
/-- How many of a row are not marked. -/
def wholeP (l : List Nt) : List Nt × Int := if validS l = true then (wholeS l, 0) else ([], 2)

/-! ### The reference's way up -/
theorem st_flaw {l : List Nt} (hv : validS l = true) {i : Nat} (hi : i < l.length) (k : Nat) : stF l (k + 1) l[i] = (decide (flawN l i = 0) && (rootR l[i].2.1 || match atS l l[i].2.1 with | none => false | some p => stF l k p)) := by
  show (okN l l[i] && _) = _
  congr 1
  rcases h : okN l l[i] with _ | _
  · symm
    rw [decide_eq_false_iff_not, flaw_ok hv hi, h]
    decide
  · symm
    rw [decide_eq_true_iff, flaw_ok hv hi, h]

/-! ### Long chains of which one node is spoilt -/
def chF (f : Nat → Nt) (n : Nat) : List Nt := (List.range n).map f
section
variable {f : Nat → Nt} {n : Nat}
theorem ch_len : (chF f n).length = n := by unfold chF; simp
theorem ch_at (i : Nat) (h : i < (chF f n).length) : (chF f n)[i] = f i := by
  revert h
  unfold chF
  intro h
  rw [List.getElem_map, List.getElem_range]
theorem ch_mem {x : Nt} : x ∈ chF f n ↔ ∃ i, i < n ∧ f i = x := by unfold chF; simp
theorem ch_valid (hd : ∀ i, (f i).1 = (1, (i : Int) + 1)) (hv : ∀ i, i < n → validN (f i) = true) : validS (chF f n) = true := by
  refine validS_at (fun i hi => ?_) fun i hi => ?_
  · rw [ch_at]
    rw [ch_len] at hi
    exact hv i hi
  · rw [ch_at, ch_at, hd, hd, less_iff]
    left
    show (i : Int) + 1 < ((i + 1 : Nat) : Int) + 1
    omega
theorem ch_here (hd : ∀ i, (f i).1 = (1, (i : Int) + 1)) (hv : ∀ i, i < n → validN (f i) = true) {i : Nat} (hi : i < n) : atS (chF f n) (1, (i : Int) + 1) = some (f i) := by
  have h := at_mem (validS_iff.1 (ch_valid hd hv)).2 (ch_mem.2 ⟨i, hi, rfl⟩)
  rw [hd] at h
  exact h
theorem ch_not (hd : ∀ i, (f i).1 = (1, (i : Int) + 1)) : atS (chF f n) (2, 1) = none := at_none.2 fun x hx => by
  obtain ⟨i, -, rfl⟩ := ch_mem.1 hx
  rw [hd]
  simp
theorem ch_take (k : Nat) (hk : k ≤ n) : (chF f n).take k = chF f k := by
  unfold chF
  rw [← List.map_take, List.take_range, Nat.min_eq_left hk]
end
/-- A chain of n nodes, of which the one with the index k has another time (w = 0), another parent (w = 1), or nothing wrong. -/
def badN (w k i : Nat) : Nt := ((1, (i : Int) + 1), (if w = 1 ∧ i = k then (2, 1) else if i = 0 then (0, 0) else (1, (i : Int))), (if w = 0 ∧ i = k ∧ 0 < i then (i : Int) else (i : Int) + 1), 97)
theorem bad_valid (w k i : Nat) (h : i < 400) : validN (badN w k i) = true := by
  rw [valid_vn]
  have hr : validR (1, (i : Int) + 1) = true := by unfold validR; simp; omega
  unfold VN badN
  refine ⟨hr, ?_, ?_, ?_, ?_, .inr (by show R.vld 97 = true; decide)⟩
  · show named (if w = 1 ∧ i = k then (2, 1) else if i = 0 then (0, 0) else (1, (i : Int)))
    unfold named
    split
    · left; decide
    · split
      · right; rfl
      · left; unfold validR; simp; omega
  · show (if w = 1 ∧ i = k then ((2 : Int), (1 : Int)) else if i = 0 then (0, 0) else (1, (i : Int))) ≠ (1, (i : Int) + 1)
    split
    · simp
    · split
      · simp
      · simp only [ne_eq, Prod.mk.injEq, true_and]; omega
  · show (1 : Int) ≤ if w = 0 ∧ i = k ∧ 0 < i then (i : Int) else (i : Int) + 1
    split <;> omega
  · show (if w = 0 ∧ i = k ∧ 0 < i then (i : Int) else (i : Int) + 1) ≤ 4611686018427387904
    split <;> omega
def badL (w k n : Nat) : List Nt := chF (badN w k) n
theorem bad_vs {w k n : Nat} (h : n ≤ 400) : validS (badL w k n) = true := ch_valid (fun _ => rfl) fun i hi => bad_valid w k i (by omega)
/-- What is wrong with the node with the index i. -/
def badF (w k i : Nat) : Int := if i = k then (if w = 1 then 3 else if w = 0 ∧ 0 < i then 4 else 0) else 0
theorem bad_up {w k n i : Nat} (hn : n ≤ 400) (hi : i < n) (hne : ¬ (w = 1 ∧ i = k)) (h0 : i ≠ 0) : atS (badL w k n) (badN w k i).2.1 = some (badN w k (i - 1)) := by
  have e : (badN w k i).2.1 = (1, ((i - 1 : Nat) : Int) + 1) := by
    unfold badN
    simp only
    rw [if_neg hne, if_neg h0]
    simp only [Prod.mk.injEq, true_and]
    omega
  rw [e]
  exact ch_here (fun _ => rfl) (fun j hj => bad_valid w k j (by omega)) (by omega)
theorem bad_flaw {w k n i : Nat} (hn : n ≤ 400) (hi : i < n) : flawN (badL w k n) i = badF w k i := by
  have hl : i < (badL w k n).length := by unfold badL; rw [ch_len]; exact hi
  have e : (badL w k n)[i] = badN w k i := ch_at i hl
  rw [flaw_store (bad_vs hn) hl]
  rw [e]
  by_cases h1 : w = 1 ∧ i = k
  · have e2 : (badN w k i).2.1 = (2, 1) := by unfold badN; simp only; rw [if_pos h1]
    rw [e2, if_neg (by decide), show atS (badL w k n) (2, 1) = none from ch_not (fun _ => rfl)]
    unfold badF
    rw [if_pos h1.2, if_pos h1.1]
  · by_cases h0 : i = 0
    · have e2 : (badN w k i).2.1 = (0, 0) := by unfold badN; simp only; rw [if_neg h1, if_pos h0]
      rw [e2, if_pos (by decide)]
      unfold badF
      subst h0
      by_cases hk : 0 = k
      · rw [if_pos hk, if_neg (fun h => h1 ⟨h, hk⟩), if_neg (by omega)]
      · rw [if_neg hk]
    · have hr : ¬ rootR (badN w k i).2.1 = true := by
        unfold badN
        simp only
        rw [if_neg h1, if_neg h0]
        unfold rootR
        simp
      rw [if_neg hr, bad_up hn hi h1 h0]
      simp only
      unfold badF badN
      simp only
      by_cases c1 : w = 0 ∧ i = k ∧ 0 < i <;> by_cases c2 : w = 0 ∧ i - 1 = k ∧ 0 < i - 1 <;> simp only [c1, c2, if_true, if_false, and_self, true_and, and_true]
      all_goals (repeat' split)
      all_goals omega
theorem bad_fault {w k n : Nat} (hn : n ≤ 400) (hk : k < n) : faultS (badL w k n) = if badF w k k = 0 then [] else [((k : Int), badF w k k)] := by
  have hl : (badL w k n).length = n := ch_len
  by_cases h : badF w k k = 0
  · rw [if_pos h]
    refine fault_none fun i hi => ?_
    rw [bad_flaw hn (by omega)]
    by_cases e : i = k
    · rw [e, h]
    · unfold badF; rw [if_neg e]
  · rw [if_neg h]
    rw [fault_one (k := k) (by omega) (by rw [bad_flaw hn hk]; exact h) (fun i hi e => by rw [bad_flaw hn (by omega)]; unfold badF; rw [if_neg e]), bad_flaw hn hk]
theorem up_iff {l : List Nt} {n p : Nt} (hr : rootR n.2.1 = false) (ha : atS l n.2.1 = some p) : Up l n ↔ p.2.2.1 < n.2.2.1 ∧ Up l p := by
  constructor
  · intro h
    cases h with
    | root hr2 => rw [hr] at hr2; cases hr2
    | step hr2 ha2 ht hp => rw [ha] at ha2; cases ha2; exact ⟨ht, hp⟩
  · rintro ⟨h1, h2⟩
    exact .step hr ha h1 h2
theorem up_flaw {l : List Nt} (hv : validS l = true) {i : Nat} (hi : i < l.length) (h : Up l l[i]) : flawN l i = 0 := by
  rw [flaw_ok hv hi]
  unfold okN
  cases h with
  | root hr => rw [hr]; rfl
  | step hr ha ht hp => rw [ha]; simp [ht]
theorem bad_stand {w k n : Nat} (hn : n ≤ 400) (hk : k < n) : ∀ i, i < n → (Up (badL w k n) (badN w k i) ↔ i < k ∨ badF w k k = 0) := by
  intro i
  have hl : (badL w k n).length = n := ch_len
  have hat : ∀ i (h : i < n), (badL w k n)[i]'(by omega) = badN w k i := fun i h => ch_at i _
  induction i with
  | zero =>
    intro hi
    by_cases h1 : w = 1 ∧ 0 = k
    · constructor
      · intro h
        rw [← hat 0 hi] at h
        have := up_flaw (bad_vs hn) (by omega) h
        rw [bad_flaw hn hi] at this
        right
        exact (congrArg (badF w k) h1.2).symm.trans this
      · rintro (h | h)
        · omega
        · exfalso
          unfold badF at h
          rw [if_pos rfl, if_pos h1.1] at h
          cases h
    · constructor
      · intro _
        by_cases hk0 : k = 0
        · right
          subst hk0
          unfold badF
          rw [if_pos rfl, if_neg (fun h => h1 ⟨h, rfl⟩), if_neg (by omega)]
        · left; omega
      · intro _
        refine .root ?_
        unfold badN
        simp only
        rw [if_neg h1, if_pos trivial]
        decide
  | succ i ih =>
    intro hi
    by_cases h1 : w = 1 ∧ i + 1 = k
    · constructor
      · intro h
        rw [← hat (i + 1) hi] at h
        have := up_flaw (bad_vs hn) (by omega) h
        rw [bad_flaw hn hi] at this
        right
        exact (congrArg (badF w k) h1.2).symm.trans this
      · rintro (h | h)
        · omega
        · exfalso
          unfold badF at h
          rw [if_pos rfl, if_pos h1.1] at h
          cases h
    · have hr : rootR (badN w k (i + 1)).2.1 = false := by
        unfold badN
        simp only
        rw [if_neg h1, if_neg (by omega)]
        unfold rootR
        simp
      have ha := bad_up hn hi h1 (by omega)
      rw [Nat.add_sub_cancel] at ha
      rw [up_iff hr ha, ih (by omega)]
      have ht : (badN w k i).2.2.1 < (badN w k (i + 1)).2.2.1 ↔ ¬ (w = 0 ∧ i + 1 = k) := by
        unfold badN
        simp only
        constructor
        · rintro h ⟨h2, h3⟩
          rw [if_pos (show w = 0 ∧ i + 1 = k ∧ 0 < i + 1 from ⟨h2, h3, by omega⟩), if_neg (by omega)] at h
          omega
        · intro h
          by_cases c1 : w = 0 ∧ i = k ∧ 0 < i <;> by_cases c2 : w = 0 ∧ i + 1 = k ∧ 0 < i + 1 <;> simp only [c1, c2, if_true, if_false, and_self]
          all_goals first | omega | exact absurd ⟨c2.1, c2.2.1⟩ h
      rw [ht]
      unfold badF
      simp only [if_true]
      by_cases hw1 : w = 1
      · rw [if_pos hw1]
        have : i + 1 ≠ k := fun e => h1 ⟨hw1, e⟩
        constructor
        · rintro ⟨-, h | h⟩
          · left; omega
          · cases h
        · rintro (h | h)
          · exact ⟨by omega, .inl (by omega)⟩
          · cases h
      · rw [if_neg hw1]
        by_cases hw0 : w = 0 ∧ 0 < k
        · rw [if_pos hw0]
          constructor
          · rintro ⟨h2, h | h⟩
            · left; have : i + 1 ≠ k := fun e => h2 ⟨hw0.1, e⟩; omega
            · cases h
          · rintro (h | h)
            · exact ⟨by omega, .inl (by omega)⟩
            · cases h
        · rw [if_neg hw0]
          constructor
          · intro _; exact .inr rfl
          · intro _; exact ⟨fun h => hw0 ⟨h.1, by omega⟩, .inr rfl⟩
theorem bad_whole {w k n : Nat} (hn : n ≤ 400) (hk : k < n) : wholeS (badL w k n) = if badF w k k = 0 then badL w k n else (badL w k n).take k := by
  have hv := bad_vs (w := w) (k := k) hn
  by_cases h : badF w k k = 0
  · rw [if_pos h]
    exact well_whole (well_iff.2 fun i hi => by
      rw [show (badL w k n).length = n from ch_len] at hi
      rw [bad_flaw hn hi]
      by_cases e : i = k
      · rw [e, h]
      · unfold badF; rw [if_neg e])
  · rw [if_neg h]
    have h1 : ∀ x ∈ (badL w k n).take k, stS (badL w k n) x = true := by
      intro x hx
      have hm := List.mem_of_mem_take hx
      rw [show (badL w k n).take k = chF (badN w k) k from ch_take k (by omega)] at hx
      obtain ⟨i, hi, rfl⟩ := ch_mem.1 hx
      exact (st_iff hv hm).2 ((bad_stand hn hk i (by omega)).2 (.inl hi))
    have h2 : ∀ x ∈ (badL w k n).drop k, ¬ stS (badL w k n) x = true := by
      intro x hx
      have hm := List.mem_of_mem_drop hx
      obtain ⟨j, hj, rfl⟩ := List.mem_iff_getElem.1 hx
      rw [List.getElem_drop] at hm ⊢
      rw [List.length_drop, show (badL w k n).length = n from ch_len] at hj
      have e : (badL w k n)[k + j]'(by rw [show (badL w k n).length = n from ch_len]; omega) = badN w k (k + j) := ch_at _ _
      rw [e] at hm ⊢
      intro hs
      rcases (bad_stand hn hk (k + j) (by omega)).1 ((st_iff hv hm).1 hs) with h3 | h3
      · omega
      · exact h h3
    unfold wholeS
    conv => lhs; rw [← List.take_append_drop k (badL w k n)]
    rw [List.filter_append]
    rw [show ((badL w k n).take k).filter (stS (List.take k (badL w k n) ++ List.drop k (badL w k n))) = (badL w k n).take k by rw [List.take_append_drop]; exact List.filter_eq_self.2 h1]
    rw [show ((badL w k n).drop k).filter (stS (List.take k (badL w k n) ++ List.drop k (badL w k n))) = [] by rw [List.take_append_drop]; exact List.filter_eq_nil_iff.2 h2]
    rw [List.append_nil]
end Go.Proofs.YtodjccfaipkpfaaGreatDoor.Fo
end
