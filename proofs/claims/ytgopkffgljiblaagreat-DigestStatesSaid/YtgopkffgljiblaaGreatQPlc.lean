/-
  Where the node with each dot is: the program's map; Find.
-/
import Derived.Test.YtgopkffgljiblaaGreatMQAsk
import Derived.Test.YtgopkffgljiblaaGreatMQMap
import Derived.Test.YtgopkffgljiblaaGreatMNPure
namespace Go.Proofs.YtgopkffgljiblaaGreat.Qs
set_option linter.unusedVariables false
open Go.RowKit V Go.Sort D Nd
attribute [local irreducible] Sch.heldN Sch.stepV Sch.stepE

def fitN (n : Nt) : Prop := fitD n.1 ∧ fitD n.2.1
theorem zInt (w : World) : (zeroValue 3).run Tryz.prog w = .ok (elInt.e elInt.x0) w := Tryz.zeroValue3 w
theorem idx_nil : idxG [] = fun _ => none := rfl
theorem idx_step {l : List Nt} {k : Nat} (h : DN l) (hk : k < l.length) : putF (idxG (l.take k)) l[k].1 (k : Int) = idxG (l.take (k + 1)) := by
  funext d
  rw [idxG_take h hk d]
  rfl
/-! ### Find -/
def findS (l : List Nt) (d : Dt) : Nt × Int := if (validS l && validR d) = true then (match atS l d with | none => (zeroN, (9 : Int)) | some n => (n, 0)) else (zeroN, 2)
/-- The dot's box, and a zero node's that may be written. -/
def Fd (g : Nat) (d : Dt) (w : World) : Prop := w.cell? ⟨g, 0, none⟩ = some (.int .i64 d.1) ∧ w.cell? ⟨g, 1, none⟩ = some (.int .i64 d.2) ∧ Zb w (g + 1)
theorem Fd.keep {g : Nat} {d : Dt} {w w' : World} (h : Fd g d w) (hb : Below w.heap.size w w') : Fd g d w' :=
  ⟨(hb.cell (p := ⟨g, 0, none⟩) (lt_of_cell h.1)).trans h.1, (hb.cell (p := ⟨g, 1, none⟩) (lt_of_cell h.2.1)).trans h.2.1, h.2.2.keep hb⟩
theorem Fd.new (d : Dt) (w : World) : Fd w.heap.size d ((w.alloc (.cells #[.int .i64 d.1, .int .i64 d.2] 48)).alloc (.cells #[.int .i64 0, .int .i64 0, .int .i64 0, .int .i64 0, .int .i64 0, .int .i32 0] 51)) := by
  have h := Zb.new (w.alloc (.cells #[.int .i64 d.1, .int .i64 d.2] 48))
  rw [show (w.alloc (.cells #[.int .i64 d.1, .int .i64 d.2] 48)).heap.size = w.heap.size + 1 by simp] at h
  refine ⟨?_, ?_, h⟩ <;> go_simp
theorem Fd.l {g : Nat} {d : Dt} : ∀ w, Fd g d w → (Instr.loadAt 48 (.pointer (some ⟨g, 0, none⟩))).run Tryz.prog w = .ok (dv d) w := fun w h => load_dot h.1 h.2.1
theorem Fd.z {g : Nat} {d : Dt} {w : World} (h : Fd g d w) : (w.cell? ⟨g + 1, 0, none⟩ = some (.int .i64 0) ∧ w.cell? ⟨g + 1, 1, none⟩ = some (.int .i64 0) ∧ w.cell? ⟨g + 1, 2, none⟩ = some (.int .i64 0) ∧ w.cell? ⟨g + 1, 3, none⟩ = some (.int .i64 0) ∧ w.cell? ⟨g + 1, 4, none⟩ = some (.int .i64 0) ∧ w.cell? ⟨g + 1, 5, none⟩ = some (.int .i32 0)) ∧
    w.frozen? ⟨g + 1, 0, none⟩ = false ∧ w.frozen? ⟨g + 1, 1, none⟩ = false ∧ w.frozen? ⟨g + 1, 2, none⟩ = false ∧ w.frozen? ⟨g + 1, 3, none⟩ = false ∧ w.frozen? ⟨g + 1, 4, none⟩ = false ∧ w.frozen? ⟨g + 1, 5, none⟩ = false := ⟨h.2.2.1, h.2.2.2 0, h.2.2.2 1, h.2.2.2 2, h.2.2.2 3, h.2.2.2 4, h.2.2.2 5⟩
theorem bel_two2 (w : World) (o p : Obj) : Below w.heap.size w ((w.alloc o).alloc p) := (bel_box _ _).alloc (by simp) _

end Go.Proofs.YtgopkffgljiblaaGreat.Qs
