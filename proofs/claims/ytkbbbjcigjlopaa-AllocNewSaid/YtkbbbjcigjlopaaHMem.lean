/-
  An allocator in memory; whether a dot is valid, whether an end is allowed; what the methods that only read return.
-/
import Derived.Test.YtkbbbjcigjlopaaHPure
import Derived.Test.YtkbbbjcigjlopaaDRefA
import Derived.Laws.ResultCell
import Derived.Deep.CutRange
namespace Go.Proofs.Ytkbbbjcigjlopaa.H
set_option linter.unusedVariables false
open Go.RowKit V Go.Sort D

theorem results_cell1 {P : Program} {fn : Func} {p : Tmp} {ty : TypeId} (h : fn.results = #[.cell p ty]) (tmps : Array Value) (w : World) :
    (results fn tmps).run P w = ((asAddr (tmps.getD p undef)).run P w).andThen fun a w₁ => (loadVar ty a).run P w₁ := by
  simp only [results, h]
  simp [Sem.run_bind, Result.andThen]
theorem bel_box (w : World) (o : Obj) : Below w.heap.size w (w.alloc o) := (Below.refl _ _).alloc (Nat.le_refl _) _
theorem lays_refl (w : World) : Lays w w := ⟨0, #[], by rw [grow_empty]; rfl⟩
theorem lays_box (w : World) (o : Obj) : Lays w (w.alloc o) := ⟨0, _, by rw [alloc_eq_grow]; rfl⟩
theorem lays_drew (w : World) : Lays w w.drew := ⟨1, #[], by rw [grow_empty]; rfl⟩
abbrev av (x : Al) : Value := .agg #[.int .i64 x.r, .int .i64 x.l, .int .i64 x.e]
abbrev abox (x : Al) (t : TypeId) : Obj := .cells #[.int .i64 x.r, .int .i64 x.l, .int .i64 x.e] t

/-- Its numbers lie in order. -/
def Vs (x : Al) : Prop := 0 ≤ x.r ∧ x.r ≤ 64 ∧ 0 ≤ x.l ∧ x.l ≤ x.e ∧ x.e ≤ 4294967295
theorem Va.vs {x : Al} (h : Va x) : Vs x := ⟨by have := h.1; omega, h.2.1, h.2.2.1, h.2.2.2.1, h.2.2.2.2⟩
/-- Block g holds these three numbers, and nothing else. -/
def A3 (w : World) (g : Nat) (x : Al) : Prop := ∃ T, w.heap[g]? = some (.cells #[.int .i64 x.r, .int .i64 x.l, .int .i64 x.e] T (0, 0))
section
variable {w w' : World} {g : Nat} {x : Al}
theorem A3.lt (h : A3 w g x) : g < w.heap.size := by
  obtain ⟨T, h⟩ := h
  exact (Array.getElem?_eq_some_iff.1 h).1
theorem A3.c0 (h : A3 w g x) : w.cell? ⟨g, 0, none⟩ = some (.int .i64 x.r) := by
  obtain ⟨T, h⟩ := h
  simp [World.cell?, h]
theorem A3.c1 (h : A3 w g x) : w.cell? ⟨g, 1, none⟩ = some (.int .i64 x.l) := by
  obtain ⟨T, h⟩ := h
  simp [World.cell?, h]
theorem A3.c2 (h : A3 w g x) : w.cell? ⟨g, 2, none⟩ = some (.int .i64 x.e) := by
  obtain ⟨T, h⟩ := h
  simp [World.cell?, h]
theorem A3.free (h : A3 w g x) (o : Nat) : w.frozen? ⟨g, o, none⟩ = false := by
  obtain ⟨T, h⟩ := h
  simp [World.frozen?, h]
theorem A3.of_heap (h : A3 w g x) (hh : w'.heap[g]? = w.heap[g]?) : A3 w' g x := by obtain ⟨T, h⟩ := h; exact ⟨T, by rw [hh, h]⟩
theorem A3.keep (h : A3 w g x) (hb : Below w.heap.size w w') : A3 w' g x := h.of_heap (hb.block g h.lt)
theorem A3.drewN (h : A3 w g x) (n : Nat) : A3 (w.drewN n) g x := h.of_heap rfl
theorem A3.gb {g' : Nat} (h : A3 w g x) (hg : w.grownBy w' (some g')) (hne : g ≠ g') : A3 w' g x := h.of_heap (hg.block g h.lt (by simpa using hne))
theorem A3.set1 (h : A3 w g x) (z : Int) : A3 (w.setCell ⟨g, 1, none⟩ (.int .i64 z)) g ⟨x.r, z, x.e⟩ := by
  obtain ⟨T, h⟩ := h
  refine ⟨T, ?_⟩
  simp [World.setCell, Array.getElem?_modify, h]
theorem A3.set2 (h : A3 w g x) (z : Int) : A3 (w.setCell ⟨g, 2, none⟩ (.int .i64 z)) g ⟨x.r, x.l, z⟩ := by
  obtain ⟨T, h⟩ := h
  refine ⟨T, ?_⟩
  simp [World.setCell, Array.getElem?_modify, h]
end
theorem a3_new (w : World) (x : Al) (t : TypeId) : A3 (w.alloc (abox x t)) w.heap.size x := by
  refine ⟨t, ?_⟩
  show (w.heap.push _)[w.heap.size]? = _
  simp

/-- The pointer is nil, or leads to these numbers. -/
def Sa (w : World) (a : Option Addr) (x : Al) : Prop := Vs x ∧ ((a = none ∧ x = ⟨0, 0, 0⟩) ∨ ∃ g, a = some ⟨g, 0, none⟩ ∧ A3 w g x)
theorem A3.sa {w : World} {g : Nat} {x : Al} (h : A3 w g x) (hv : Vs x) : Sa w (some ⟨g, 0, none⟩) x := ⟨hv, .inr ⟨g, rfl, h⟩⟩
theorem Sa.keep {w w' : World} {a : Option Addr} {x : Al} (h : Sa w a x) (hb : Below w.heap.size w w') : Sa w' a x := by
  refine ⟨h.1, ?_⟩
  rcases h.2 with h | ⟨g, e, h⟩
  · exact .inl h
  · exact .inr ⟨g, e, h.keep hb⟩
theorem sa_nil (w : World) : Sa w none ⟨0, 0, 0⟩ := ⟨by unfold Vs; simp, .inl ⟨rfl, rfl⟩⟩
/-- An allocator. -/
def Am (w : World) (g : Nat) (x : Al) : Prop := A3 w g x ∧ Va x
theorem Am.keep {w w' : World} {g : Nat} {x : Al} (h : Am w g x) (hb : Below w.heap.size w w') : Am w' g x := ⟨h.1.keep hb, h.2⟩
theorem Am.gb {w w' : World} {g g' : Nat} {x : Al} (h : Am w g x) (hg : w.grownBy w' (some g')) (hne : g ≠ g') : Am w' g x := ⟨h.1.gb hg hne, h.2⟩
theorem Am.sa {w : World} {g : Nat} {x : Al} (h : Am w g x) : Sa w (some ⟨g, 0, none⟩) x := h.1.sa h.2.vs

/-- A row of dots in a block, from its beginning on, that may be written. -/
def Rw (w : World) (g n : Nat) (f : Nat → Dt) : Prop :=
  g < w.heap.size ∧ ∀ i, i < n → w.cell? ⟨g, i * 2, none⟩ = some (.int .i64 (f i).1) ∧ w.cell? ⟨g, i * 2 + 1, none⟩ = some (.int .i64 (f i).2) ∧ w.frozen? ⟨g, i * 2, none⟩ = false ∧ w.frozen? ⟨g, i * 2 + 1, none⟩ = false
theorem Rw.below {w w' : World} {g n : Nat} {f : Nat → Dt} (h : Rw w g n f) (hb : Below w.heap.size w w') : Rw w' g n f :=
  ⟨Nat.lt_of_lt_of_le h.1 hb.size, fun i hi => by
    obtain ⟨h1, h2, h3, h4⟩ := h.2 i hi
    exact ⟨(hb.cell (p := ⟨_, _, none⟩) h.1).trans h1, (hb.cell (p := ⟨_, _, none⟩) h.1).trans h2, (hb.frozen (p := ⟨_, _, none⟩) h.1).trans h3, (hb.frozen (p := ⟨_, _, none⟩) h.1).trans h4⟩⟩
theorem Rw.congr {w : World} {g n : Nat} {f f' : Nat → Dt} (h : Rw w g n f) (e : ∀ i, i < n → f i = f' i) : Rw w g n f' := ⟨h.1, fun i hi => by rw [← e i hi]; exact h.2 i hi⟩
theorem Rw.sub {w : World} {g n m : Nat} {f : Nat → Dt} (h : Rw w g n f) (hm : m ≤ n) : Rw w g m f := ⟨h.1, fun i hi => h.2 i (by omega)⟩
theorem Rw.row {w : World} {g : Nat} {l : List Dt} {f : Nat → Dt} (h : Rw w g l.length f) (e : ∀ i (hi : i < l.length), f i = l[i]) : RowD w (some ⟨g, 0, none⟩) l :=
  .inr ⟨g, 0, rfl, fun i hi => by
    obtain ⟨h1, h2, -, -⟩ := h.2 i hi
    rw [Nat.zero_add, Nat.zero_add, h1, h2, e i hi]
    exact ⟨rfl, rfl⟩⟩
theorem size_setCell (w : World) (a : Addr) (v : Value) : (w.setCell a v).heap.size = w.heap.size := by
  have := (Below.refl w.heap.size w).setCell (p := a)
  unfold World.setCell
  split <;> simp
theorem Rw.put {w : World} {g n : Nat} {f : Nat → Dt} (h : Rw w g n f) (k : Nat) (hk : k < n) (x : Dt) :
    Rw ((w.setCell ⟨g, k * 2, none⟩ (.int .i64 x.1)).setCell ⟨g, k * 2 + 1, none⟩ (.int .i64 x.2)) g n (fun i => if i = k then x else f i) := by
  refine ⟨by rw [size_setCell, size_setCell]; exact h.1, fun i hi => ?_⟩
  obtain ⟨h1, h2, h3, h4⟩ := h.2 i hi
  obtain ⟨k1, k2, -, -⟩ := h.2 k hk
  simp only [World.frozen?_setCell]
  refine ⟨?_, ?_, h3, h4⟩
  · rw [World.cell?_setCell_other _ _ _ _ (by simp <;> omega)]
    by_cases e : i = k
    · subst e
      rw [World.cell?_setCell_same _ _ _ k1, if_pos rfl]
    · rw [World.cell?_setCell_other _ _ _ _ (by simp <;> omega), h1, if_neg e]
  · by_cases e : i = k
    · subst e
      rw [World.cell?_setCell_same _ _ _ (u := .int .i64 (f i).2) (by rw [World.cell?_setCell_other _ _ _ _ (by simp)]; exact k2), if_pos rfl]
    · rw [World.cell?_setCell_other _ _ _ _ (by simp <;> omega), World.cell?_setCell_other _ _ _ _ (by simp <;> omega), h2, if_neg e]
theorem Rw.gb {w w' : World} {g n : Nat} {f : Nat → Dt} {r : Nat} (h : Rw w g n f) (hg : w.grownBy w' (some r)) (hne : g ≠ r) : Rw w' g n f := by
  have e := hg.block g h.1 (by simpa using hne)
  refine ⟨Nat.lt_of_lt_of_le h.1 hg.size, fun i hi => ?_⟩
  obtain ⟨h1, h2, h3, h4⟩ := h.2 i hi
  refine ⟨by rw [World.cell?_of_block (w := w) e]; exact h1, by rw [World.cell?_of_block (w := w) e]; exact h2, ?_, ?_⟩
  · simpa only [World.frozen?, e] using h3
  · simpa only [World.frozen?, e] using h4
theorem gb_new {w w' : World} {row : Option Nat} (h : w.grownBy w' row) {b : Nat} (hb : w.heap.size ≤ b) (o : Nat) (v : Value) : w.grownBy (w'.setCell ⟨b, o, none⟩ v) row :=
  ⟨h.os, h.tape, h.output, by rw [size_setCell]; exact h.size, fun i hi hr => (Below.heap_setCell w' ⟨b, o, none⟩ v i (by simp only; omega)).trans (h.block i hi hr)⟩
theorem gb_row {w w' : World} {row : Option Nat} (h : w.grownBy w' none) : w.grownBy w' row := ⟨h.os, h.tape, h.output, h.size, fun i hi _ => h.block i hi (by simp)⟩
theorem ix_dot (b o n c k : Nat) (z : Int) (hz : z = (k : Int)) (hk : k < n) : ∀ w, (Instr.indexAt 46 (.slice (some ⟨b, o, none⟩) n c) (.int .i64 z)).run Try.prog w = .ok (.pointer (some ⟨b, o + k * 2, none⟩)) w := by
  intro w
  subst hz
  have hk2 : (k : Int) < (n : Int) := by omega
  go_simp
theorem ix_dot0 (b n c k : Nat) (z : Int) (hz : z = (k : Int)) (hk : k < n) : ∀ w, (Instr.indexAt 46 (.slice (some ⟨b, 0, none⟩) n c) (.int .i64 z)).run Try.prog w = .ok (.pointer (some ⟨b, k * 2, none⟩)) w := fun w => by
  have h := ix_dot b 0 n c k z hz hk w
  rwa [Nat.zero_add] at h
/-- Which dots are valid. -/
def validR (d : Dt) : Bool := decide (0 < d.1) && decide (d.1 ≤ 64) && decide (0 < d.2) && decide (d.2 ≤ 4294967295)
set_option maxRecDepth 100000 in
set_option maxHeartbeats 1000000 in
theorem valid_any (d : Dt) (w : World) : Calls Try.prog 35 #[dv d] w fun e w' => e = .returned (.bool (validR d)) ∧ Lays w w' := by
  have HE : Hid (validR d = (decide (0 < d.1) && decide (d.1 ≤ 64) && decide (0 < d.2) && decide (d.2 ≤ 4294967295))) := rfl
  obtain ⟨d1, d2⟩ := d
  generalize validR (d1, d2) = R at *
  by_cases h1 : 1 ≤ d1
  · by_cases h2 : d1 ≤ 64
    · by_cases h3 : 1 ≤ d2
      · by_cases h4 : d2 ≤ 4294967295
        · have hR : R = true := by rw [HE.out]; simp; omega
          clear HE
          subst hR
          go_enter Try.func35, Try.ntmps35
          go_wp2_with fail
          go_ret
          exact ⟨rfl, lays_box _ _⟩
        · have hR : R = false := by rw [HE.out]; simp; omega
          clear HE
          subst hR
          go_enter Try.func35, Try.ntmps35
          go_wp2_with fail
          go_ret
          exact ⟨rfl, lays_box _ _⟩
      · have hR : R = false := by rw [HE.out]; simp; omega
        clear HE
        subst hR
        go_enter Try.func35, Try.ntmps35
        go_wp2_with fail
        go_ret
        exact ⟨rfl, lays_box _ _⟩
    · have hR : R = false := by rw [HE.out]; simp; omega
      clear HE
      subst hR
      go_enter Try.func35, Try.ntmps35
      go_wp2_with fail
      go_ret
      exact ⟨rfl, lays_box _ _⟩
  · have hR : R = false := by rw [HE.out]; simp; omega
    clear HE
    subst hR
    go_enter Try.func35, Try.ntmps35
    go_wp2_with fail
    go_ret
    exact ⟨rfl, lays_box _ _⟩

/-- Whether there is such a replica, and whether an end is allowed. -/
def endR (r e : Int) : Bool := decide (1 ≤ r) && decide (r ≤ 64) && decide (e ≤ 4294967295)
theorem end_zero (r : Int) : validR (r, 1) = endR r 0 := by
  unfold validR endR
  by_cases h1 : 1 ≤ r <;> by_cases h2 : r ≤ 64 <;> simp [h1, h2] <;> omega
theorem end_some (r : Int) {e : Int} (h : 1 ≤ e) : validR (r, e) = endR r e := by
  have h' : 0 < e := by omega
  unfold validR endR
  by_cases h1 : 1 ≤ r <;> by_cases h2 : r ≤ 64 <;> simp [h1, h2, h'] <;> omega
set_option maxRecDepth 100000 in
set_option maxHeartbeats 1000000 in
theorem canEnd_any (r e : Int) (w : World) (he : 0 ≤ e) : Calls Try.prog 27 #[.int .i64 r, .int .i64 e] w fun x w' => x = .returned (.bool (endR r e)) ∧ Lays w w' := by
  by_cases h : e = 0
  · have HV1 := Lib.hid (fun (w : World) => valid_any (r, 1) w)
    subst h
    rw [end_zero] at HV1
    generalize endR r 0 = R at *
    go_enter Try.func27, Try.ntmps27
    go_wp2_with fail
    refine (HV1.out _).mono ?_
    rintro x w1 ⟨rfl, hl⟩
    have HL := Lib.hid hl
    clear hl
    go_wp2_with fail
    go_ret
    exact ⟨rfl, HL.out⟩
  · have HV := Lib.hid (fun (w : World) => valid_any (r, e) w)
    have h1 : 1 ≤ e := by omega
    rw [end_some r h1] at HV
    generalize endR r e = R at *
    go_enter Try.func27, Try.ntmps27
    go_wp2_with fail
    refine (HV.out _).mono ?_
    rintro x w1 ⟨rfl, hl⟩
    have HL := Lib.hid hl
    clear hl
    go_wp2_with fail
    go_ret
    exact ⟨rfl, HL.out⟩

/-! ### What only reads -/
set_option maxRecDepth 100000 in
set_option maxHeartbeats 1000000 in
theorem none_any (a : Option Addr) (x : Al) (w : World) (h : Sa w a x) : Calls Try.prog 28 #[.pointer a] w fun e w' => e = .returned (.bool (decide (x.r = 0))) ∧ w' = w := by
  rcases h.2 with ⟨rfl, rfl⟩ | ⟨g, rfl, h3⟩
  · go_enter Try.func28, Try.ntmps28
    go_wp2_with fail
    go_ret
    exact ⟨rfl, rfl⟩
  · have k0 := h3.c0
    clear h h3
    obtain ⟨r, l, e⟩ := x
    simp only at *
    by_cases hr : r = 0
    · subst hr
      go_enter Try.func28, Try.ntmps28
      go_wp2_with fail
      go_ret
      exact ⟨rfl, rfl⟩
    · have hd : decide (r = 0) = false := by simpa using hr
      have hd2 : (r == 0) = false := by simpa using hr
      go_enter Try.func28, Try.ntmps28
      go_wp2_with fail
      go_ret
      exact ⟨by rw [hd]; rfl, rfl⟩
set_option maxRecDepth 100000 in
set_option maxHeartbeats 1000000 in
theorem state_any (a : Option Addr) (x : Al) (w : World) (h : Sa w a x) : Calls Try.prog 33 #[.pointer a] w fun e w' => e = .returned (.agg #[.int .i64 x.r, .int .i64 x.l, .int .i64 x.e]) ∧ Lays w w' := by
  rcases h.2 with ⟨rfl, rfl⟩ | ⟨g, rfl, h3⟩
  · go_enter Try.func33, Try.ntmps33
    go_wp2_with fail
    (try simp only [Exit.inBlock, Exit.then])
    refine bodyPost_ret (v := av ⟨0, 0, 0⟩) (by rw [results_cell1 (fn := Try.f33) (p := 2) (ty := 53) rfl]; go_simp) rfl ?_
    exact ⟨rfl, lays_box _ _⟩
  · have k0 := h3.c0
    have k1 := h3.c1
    have k2 := h3.c2
    have hlt := h3.lt
    clear h h3
    obtain ⟨r, l, e⟩ := x
    simp only at *
    go_enter Try.func33, Try.ntmps33
    go_wp2_with fail
    (try simp only [Exit.inBlock, Exit.then])
    refine bodyPost_ret (v := av ⟨r, l, e⟩) (by rw [results_cell1 (fn := Try.f33) (p := 2) (ty := 53) rfl]; go_simp) rfl ?_
    exact ⟨rfl, lays_box _ _⟩
set_option maxRecDepth 100000 in
theorem replica_any (a : Option Addr) (x : Al) (w : World) (h : Sa w a x) : Calls Try.prog 25 #[.pointer a] w fun e w' => e = .returned (.int .i64 x.r) ∧ Lays w w' := by
  have HS := Lib.hid (state_any a x w h)
  clear h
  have f0 : ∀ w : World, (Instr.field 53 (.agg #[.int .i64 x.r, .int .i64 x.l, .int .i64 x.e]) 0).run Try.prog w = .ok (.int .i64 x.r) w := fun _ => by kernel_rfl
  go_enter Try.func25, Try.ntmps25
  go_wp2_with fail
  refine HS.out.mono ?_
  rintro e w1 ⟨rfl, hl⟩
  have HL := Lib.hid hl
  clear hl
  go_wp2_with fail
  go_ret
  exact ⟨rfl, HL.out⟩
set_option maxRecDepth 100000 in
theorem last_any (a : Option Addr) (x : Al) (w : World) (h : Sa w a x) : Calls Try.prog 19 #[.pointer a] w fun e w' => e = .returned (.int .i64 x.l) ∧ Lays w w' := by
  have HS := Lib.hid (state_any a x w h)
  clear h
  have f1 : ∀ w : World, (Instr.field 53 (.agg #[.int .i64 x.r, .int .i64 x.l, .int .i64 x.e]) 1).run Try.prog w = .ok (.int .i64 x.l) w := fun _ => by kernel_rfl
  go_enter Try.func19, Try.ntmps19
  go_wp2_with fail
  refine HS.out.mono ?_
  rintro e w1 ⟨rfl, hl⟩
  have HL := Lib.hid hl
  clear hl
  go_wp2_with fail
  go_ret
  exact ⟨rfl, HL.out⟩
set_option maxRecDepth 100000 in
theorem end_any (a : Option Addr) (x : Al) (w : World) (h : Sa w a x) : Calls Try.prog 26 #[.pointer a] w fun e w' => e = .returned (.int .i64 x.e) ∧ Lays w w' := by
  have HS := Lib.hid (state_any a x w h)
  clear h
  have f2 : ∀ w : World, (Instr.field 53 (.agg #[.int .i64 x.r, .int .i64 x.l, .int .i64 x.e]) 2).run Try.prog w = .ok (.int .i64 x.e) w := fun _ => by kernel_rfl
  go_enter Try.func26, Try.ntmps26
  go_wp2_with fail
  refine HS.out.mono ?_
  rintro e w1 ⟨rfl, hl⟩
  have HL := Lib.hid hl
  clear hl
  go_wp2_with fail
  go_ret
  exact ⟨rfl, HL.out⟩
theorem lays_tr {w w1 w2 : World} (h : Lays w w1) (k : Lays w1 w2) : Lays w w2 := by
  obtain ⟨q, os, rfl⟩ := h
  obtain ⟨q2, os2, rfl⟩ := k
  exact ⟨q + q2, os ++ os2, by rw [show ((grow (w.drewN q) os).drewN q2) = grow ((w.drewN q).drewN q2) os from rfl, grow_grow, World.drewN_drewN]⟩
set_option maxRecDepth 100000 in
set_option maxHeartbeats 1000000 in
theorem left_any (a : Option Addr) (x : Al) (w : World) (h : Sa w a x) : Calls Try.prog 20 #[.pointer a] w fun e w' => e = .returned (.int .i64 (x.e - x.l)) ∧ Lays w w' := by
  have HS := Lib.hid (state_any a x w h)
  have HH := Lib.hid h
  obtain ⟨h0, h1, h2, h3, h4⟩ := h.1
  clear h h0 h1
  have f1 : ∀ w : World, (Instr.field 53 (.agg #[.int .i64 x.r, .int .i64 x.l, .int .i64 x.e]) 1).run Try.prog w = .ok (.int .i64 x.l) w := fun _ => by kernel_rfl
  have f2 : ∀ w : World, (Instr.field 53 (.agg #[.int .i64 x.r, .int .i64 x.l, .int .i64 x.e]) 2).run Try.prog w = .ok (.int .i64 x.e) w := fun _ => by kernel_rfl
  go_enter Try.func20, Try.ntmps20
  go_wp2_with fail
  refine HS.out.mono ?_
  rintro e w1 ⟨rfl, hl⟩
  have HL := Lib.hid hl
  have HS2 := Lib.hid (state_any a x w1 (HH.out.keep hl.bel))
  clear hl HS
  obtain ⟨r, l, e⟩ := x
  simp only at *
  go_wp2_with fail
  refine HS2.out.mono ?_
  rintro e w2 ⟨rfl, hl⟩
  replace HL := Lib.hid (lays_tr HL.out hl)
  clear hl
  go_wp2_with fail
  go_ret
  exact ⟨rfl, HL.out⟩
end Go.Proofs.Ytkbbbjcigjlopaa.H
