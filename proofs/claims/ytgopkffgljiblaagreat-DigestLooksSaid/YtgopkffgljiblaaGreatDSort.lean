/-
  Rows of dots that may be written; the library's SortFunc by Compare.
-/
import Derived.Test.YtgopkffgljiblaaGreatMDRefB
import Derived.Test.YtgopkffgljiblaaGreatSortLay
namespace Go.Proofs.YtgopkffgljiblaaGreat.D
set_option linter.unusedVariables false
open Go.RowKit V Go.Sort Go.Shelf

/-- A row of dots in a block, from its beginning on, that may be written. -/
def Rw (w : World) (g n : Nat) (f : Nat → Dt) : Prop :=
  g < w.heap.size ∧ ∀ i, i < n → w.cell? ⟨g, i * 2, none⟩ = some (.int .i64 (f i).1) ∧ w.cell? ⟨g, i * 2 + 1, none⟩ = some (.int .i64 (f i).2) ∧ w.frozen? ⟨g, i * 2, none⟩ = false ∧ w.frozen? ⟨g, i * 2 + 1, none⟩ = false
theorem Rw.below {w w' : World} {g n : Nat} {f : Nat → Dt} (h : Rw w g n f) (hb : Below w.heap.size w w') : Rw w' g n f :=
  ⟨Nat.lt_of_lt_of_le h.1 hb.size, fun i hi => by
    obtain ⟨h1, h2, h3, h4⟩ := h.2 i hi
    exact ⟨(hb.cell (p := ⟨_, _, none⟩) h.1).trans h1, (hb.cell (p := ⟨_, _, none⟩) h.1).trans h2, (hb.frozen (p := ⟨_, _, none⟩) h.1).trans h3, (hb.frozen (p := ⟨_, _, none⟩) h.1).trans h4⟩⟩
theorem Rw.congr {w : World} {g n : Nat} {f f' : Nat → Dt} (h : Rw w g n f) (e : ∀ i, i < n → f i = f' i) : Rw w g n f' := ⟨h.1, fun i hi => by rw [← e i hi]; exact h.2 i hi⟩
theorem Rw.sub {w : World} {g n m : Nat} {f : Nat → Dt} (h : Rw w g n f) (hm : m ≤ n) : Rw w g m f := ⟨h.1, fun i hi => h.2 i (by omega)⟩
theorem Rw.row {w : World} {g : Nat} {l : List Dt} {f : Nat → Dt} (h : Rw w g l.length f) (e : ∀ i (hi : i < l.length), f i = l[i]) : RowD w (some ⟨g, 0, none⟩) l :=
  .inr ⟨g, 0, rfl, fun i hi => by
    obtain ⟨h1, h2, -, -⟩ := h.2 i hi
    rw [Nat.zero_add, Nat.zero_add, h1, h2, e i hi]
    exact ⟨rfl, rfl⟩⟩
theorem size_setCell (w : World) (a : Addr) (v : Value) : (w.setCell a v).heap.size = w.heap.size := by
  have := (Below.refl w.heap.size w).setCell (p := a)
  unfold World.setCell
  split <;> simp
theorem Rw.put {w : World} {g n : Nat} {f : Nat → Dt} (h : Rw w g n f) (k : Nat) (hk : k < n) (x : Dt) :
    Rw ((w.setCell ⟨g, k * 2, none⟩ (.int .i64 x.1)).setCell ⟨g, k * 2 + 1, none⟩ (.int .i64 x.2)) g n (fun i => if i = k then x else f i) := by
  refine ⟨by rw [size_setCell, size_setCell]; exact h.1, fun i hi => ?_⟩
  obtain ⟨h1, h2, h3, h4⟩ := h.2 i hi
  obtain ⟨k1, k2, -, -⟩ := h.2 k hk
  simp only [World.frozen?_setCell]
  refine ⟨?_, ?_, h3, h4⟩
  · rw [World.cell?_setCell_other _ _ _ _ (by simp <;> omega)]
    by_cases e : i = k
    · subst e
      rw [World.cell?_setCell_same _ _ _ k1, if_pos rfl]
    · rw [World.cell?_setCell_other _ _ _ _ (by simp <;> omega), h1, if_neg e]
  · by_cases e : i = k
    · subst e
      rw [World.cell?_setCell_same _ _ _ (u := .int .i64 (f i).2) (by rw [World.cell?_setCell_other _ _ _ _ (by simp)]; exact k2), if_pos rfl]
    · rw [World.cell?_setCell_other _ _ _ _ (by simp <;> omega), World.cell?_setCell_other _ _ _ _ (by simp <;> omega), h2, if_neg e]
theorem size_setCells (b : Nat) : ∀ (vs : List Value) (o : Nat) (w : World), (w.setCells b o vs).heap.size = w.heap.size
  | [], o, w => rfl
  | v :: r, o, w => by rw [World.setCells, size_setCells b r, size_setCell]
theorem below_setCells {B : Nat} {a : World} (b : Nat) (hb : B ≤ b) : ∀ (vs : List Value) (o : Nat) (w : World), Below B a w → Below B a (w.setCells b o vs)
  | [], o, w, h => h
  | v :: r, o, w, h => by rw [World.setCells]; exact below_setCells b hb r _ _ (h.setCell hb v)
theorem Rw.clears {w : World} {g n k : Nat} {f : Nat → Dt} (h : Rw w g n f) (hk : k ≤ n) (vs : List Value) : Rw (w.setCells g (k * 2) vs) g k f := by
  refine ⟨by rw [size_setCells]; exact h.1, fun i hi => ?_⟩
  obtain ⟨h1, h2, h3, h4⟩ := h.2 i (by omega)
  rw [World.cell?_setCells_out _ _ _ _ _ (fun _ _ => .inl (by show i * 2 < k * 2; omega)), World.cell?_setCells_out _ _ _ _ _ (fun _ _ => .inl (by show i * 2 + 1 < k * 2; omega)), World.frozen?_setCells, World.frozen?_setCells]
  exact ⟨h1, h2, h3, h4⟩

/-- A list in order, with equals. -/
def Wk (l : List Dt) : Prop := l.Pairwise fun a b => less b a = false
def encD (x : Dt) : List Value := [.int .i64 x.1, .int .i64 x.2]
theorem holds_of_rw {w : World} {g : Nat} {l : List Dt} (h : Rw w g l.length fun i => l[i]!) : HoldsK encD 2 w g 0 l.toArray := by
  intro j hj
  rw [size_flatK] at hj
  have hj2 : j / 2 < l.length := by simp at hj; omega
  obtain ⟨h1, h2, h3, h4⟩ := h.2 (j / 2) hj2
  rw [get_flatK _ _ _ _ hj]
  have e : l.toArray[j / 2]! = l[j / 2]! := by simp
  rw [e, Nat.zero_add]
  rcases Nat.mod_two_eq_zero_or_one j with h0 | h0
  · have ej : j / 2 * 2 = j := by omega
    rw [ej] at h1 h3
    rw [h0]
    exact ⟨h1, h3⟩
  · have ej : j / 2 * 2 + 1 = j := by omega
    rw [ej] at h2 h4
    rw [h0]
    exact ⟨h2, h4⟩
theorem rw_of_holds {w : World} {g : Nat} {l : List Dt} (h : HoldsK encD 2 w g 0 l.toArray) (hg : g < w.heap.size) : Rw w g l.length fun i => l[i]! := by
  refine ⟨hg, fun i hi => ?_⟩
  have h0 := HoldsK.cell h (i := i) (c := 0) (by simpa using hi) (by omega)
  have h1 := HoldsK.cell h (i := i) (c := 1) (by simpa using hi) (by omega)
  have e : l.toArray[i]! = l[i]! := by simp
  rw [e] at h0 h1
  simp only [Nat.zero_add, Nat.add_zero] at h0 h1
  exact ⟨h0.1, h1.1, h0.2, h1.2⟩
theorem ltOf_cmp (x y : Dt) : ltOf cmpR x y = less x y := by
  unfold ltOf
  rcases h : less x y with _ | _
  · rw [decide_eq_false_iff_not, cmp_neg, h]; simp
  · rw [decide_eq_true_eq, cmp_neg, h]
theorem swo_less : SWO (ltOf cmpR) := {
  irrefl := fun x => by rw [ltOf_cmp]; exact less_irr x
  trans := fun x y z h1 h2 => by rw [ltOf_cmp] at *; exact less_trans h1 h2
  ntrans := fun x y z h1 h2 => by
    rw [ltOf_cmp] at *
    rw [← Bool.not_eq_true, less_iff] at *
    omega }
theorem wk_merge (l : List Dt) : Wk (l.mergeSort fun x y => !(ltOf cmpR) y x) := by
  have h := List.pairwise_mergeSort (le := fun x y => !(ltOf cmpR) y x) (fun a b c h1 h2 => by
    simp only [ltOf_cmp, Bool.not_eq_true'] at *
    rw [← Bool.not_eq_true, less_iff] at *
    omega) (fun a b => by
    simp only [ltOf_cmp]
    rcases h : less b a with _ | _
    · simp
    · simp [less_asymm h]) l
  unfold Wk
  refine h.imp ?_
  intro a b hab
  simp only [ltOf_cmp, Bool.not_eq_true'] at hab
  exact hab

theorem isAggD : ∀ w, (isAgg 48).run Tryz.prog w = .ok true w := Tryz.isAgg48
theorem sizeD : ∀ w, (Go.sizeOf 48).run Tryz.prog w = .ok 2 w := Tryz.sizeOf48
theorem sort_any (g : Nat) (l : List Dt) (c : Nat) (w : World) (h : Rw w g l.length fun i => l[i]!) (hlen : l.length ≤ 1000000) :
    Calls Tryz.prog 95 #[.slice (some ⟨g, 0, none⟩) l.length c, .func (.func 72) #[] #[]] w fun e w' =>
      e = .returned (.tuple #[]) ∧ ∃ m : List Dt, m.Perm l ∧ Wk m ∧ Rw w' g m.length (fun i => m[i]!) ∧ Below g w w' := by
  have eg : ∀ args w, (callFunc 72 args).run Tryz.prog w = .ok (.enter 72 args) w := enters_of Tryz.func72 (by kernel_rfl) rfl
  have hcon := AnyQ.slices_SortFunc_total Tryz.sortD 2 isAggD sizeD encD (fun _ => rfl) (fun x v hv => by simp [encD] at hv; rcases hv with rfl | rfl <;> rfl) cmpR swo_less 72 #[] g 0 c l.toArray w eg
    (fun m os dk hdk x y => compare_any x y _) (holds_of_rw h) h.1 (by simp; omega) (fun x y h1 h2 => by rw [ltOf_cmp] at *; exact less_tri h1 h2)
  change Calls Tryz.prog 95 _ _ _ at hcon
  rw [List.size_toArray] at hcon
  refine hcon.mono ?_
  rintro e w' ⟨rfl, n, os, rfl⟩
  have hl : (l.mergeSort fun x y => !(ltOf cmpR) y x).length = l.length := (List.mergeSort_perm l _).length_eq
  refine ⟨rfl, _, List.mergeSort_perm l (fun x y => !(ltOf cmpR) y x), wk_merge l, ?_, ?_⟩
  · apply rw_of_holds
    · exact holdsK_sortWorldK_c encD 2 w g 0 l.toArray _ n os (holds_of_rw h) h.1 (by simp [hl])
    · have := h.1
      exact Nat.lt_of_lt_of_le this (size_sortWorldK_c encD 2 w g 0 n _ os)
  · unfold sortWorldK
    refine bel_grow (w' := putRowK encD 2 (Go.Sort.ahead w n) g 0 _) ?_ ?_ os
    · refine ⟨rfl, rfl, rfl, ?_, fun b hb => ?_⟩
      · rw [size_putRowK]; exact Nat.le_refl _
      · unfold putRowK putRow mapBlock
        show (w.heap.modify g _)[b]? = _
        rw [Array.getElem?_modify, if_neg (by omega)]
    · rw [size_putRowK]; exact Nat.le_of_lt h.1
end Go.Proofs.YtgopkffgljiblaaGreat.D
