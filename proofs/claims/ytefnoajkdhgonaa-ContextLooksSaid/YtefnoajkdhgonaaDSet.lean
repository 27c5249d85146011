/-
  The program's choice: the set of the dots of a list that stay.
-/
import Derived.Test.YtefnoajkdhgonaaDCompact
import Derived.Test.YtefnoajkdhgonaaDHas
import Derived.Test.YtefnoajkdhgonaaDSearch
import Derived.Laws.MakeOwn
namespace Go.Proofs.Ytefnoajkdhgonaa.D
set_option linter.unusedVariables false
open Go.RowKit V Go.Sort

set_option maxRecDepth 100000 in
theorem sort_none (c : Nat) (fv : Value) (w : World) : Calls Try.prog 90 #[.slice none 0 c, fv] w fun e w' => e = .returned (.tuple #[]) ∧ w' = w := by
  have := AnyF.slices_SortFunc_none Try.sortD none c fv w
  exact this
set_option maxRecDepth 100000 in
theorem compact_none (c : Nat) (w : World) : Calls Try.prog 91 #[.slice none 0 c] w fun e w' => e = .returned (.slice none 0 c) ∧ w' = w := by
  go_enter Try.func91, Try.ntmps91
  go_wp2_with fail
  go_ret
  exact ⟨rfl, rfl⟩
set_option maxRecDepth 100000 in
theorem always_any (d : Dt) (w : World) : Calls Try.prog 81 #[dv d] w fun e w' => e = .returned (.bool true) ∧ Below w.heap.size w w' := by
  obtain ⟨d1, d2⟩ := d
  go_enter Try.func81, Try.ntmps81
  go_wp2_with fail
  go_ret
  exact ⟨rfl, (Below.refl _ _).alloc (Nat.le_refl _) _⟩

/-- What is handed back: a slice of dots, in a block that was new, if there are any. -/
def SetV (w' : World) (base : Nat) (v : Value) (m : List Dt) : Prop :=
  ∃ a c, v = .slice a m.length c ∧ (a = none → c = 0) ∧ (m = [] ∨ ∃ g, a = some ⟨g, 0, none⟩ ∧ base ≤ g ∧ Rw w' g m.length fun i => m[i]!)
theorem SetV.row {w' : World} {base : Nat} {v : Value} {m : List Dt} (h : SetV w' base v m) : ∃ a c, v = .slice a m.length c ∧ (a = none → c = 0) ∧ RowD w' a m := by
  obtain ⟨a, c, rfl, hc, h⟩ := h
  refine ⟨a, c, rfl, hc, ?_⟩
  rcases h with rfl | ⟨g, rfl, hb, hr⟩
  · exact .inl rfl
  · exact hr.row fun i hi => getElem!_pos m i hi
theorem OD.rw {w : World} {base : Nat} {g n c : Nat} {l : List Dt} (h : OD w base E (.slice (some ⟨g, 0, none⟩) n c) l) : n = l.length ∧ base ≤ g ∧ l.length ≤ c ∧ Rw w g l.length fun i => l[i]! := by
  obtain ⟨a, c', e, hr, -, hc, hx⟩ := h.row
  simp only [Value.slice.injEq] at e
  obtain ⟨rfl, rfl, rfl⟩ := e
  obtain ⟨-, -, hb, hg⟩ := hx _ rfl
  refine ⟨rfl, hb, hc, hg, fun i hi => ?_⟩
  have c1 := World.ownsRow.cellAt h (i * 2) (by omega)
  have c2 := World.ownsRow.cellAt h (i * 2 + 1) (by omega)
  obtain ⟨k1, k2⟩ := cellsD_at l i hi
  have e : (fun i => l[i]!) i = l[i] := getElem!_pos l i hi
  rw [e]
  exact ⟨c1.trans k1, c2.trans k2, World.ownsRow.frozenAt h _, World.ownsRow.frozenAt h _⟩

/-- What a function value says of each dot, wherever it is asked behind w. -/
def Says (w : World) (g : Nat) (cb : Array Value) (p : Dt → Bool) : Prop :=
  ∀ W, Below w.heap.size w W → ∀ d : Dt, Calls Try.prog g (#[dv d] ++ cb) W fun e w' => e = .returned (.bool (p d)) ∧ Below W.heap.size W w'
end Go.Proofs.Ytefnoajkdhgonaa.D
