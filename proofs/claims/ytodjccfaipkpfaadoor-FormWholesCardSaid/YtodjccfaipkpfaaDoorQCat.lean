/-
  The library's Grow, Concat and Clone at nodes.
-/
import Derived.Test.YtodjccfaipkpfaaDoorQRow
import Derived.Lib.AppendZeros
import Derived.Lib.SliceRun
import Derived.Laws.MakeOwn
namespace Go.Proofs.YtodjccfaipkpfaaDoor.Qs
set_option linter.unusedVariables false
open Go.RowKit V Go.Sort D Nd

abbrev E : TypeId := 37
theorem infoN : (Tryd.prog.info? 37).map (fun i => (i.zero, i.size, i.bytes)) = some (some zeroNv, 6, 48) := by kernel_rfl
/-- A row of two slices, in memory. -/
def Two (w : World) (g : Nat) (x y : Value) : Prop := w.cell? ⟨g, 0, none⟩ = some x ∧ w.cell? ⟨g, 1, none⟩ = some y

theorem nilN : ∀ (w : World) (a : Option Addr) (n c n' c' : Nat), (binOp .eql 22 (.slice a n c) (.slice none n' c')).run Tryd.prog w = .ok (.bool a.isNone) w := fun w a n c n' c' => Lib.run_eql_slice_nil w _ _ a n c n' c' Tryd.underlying22
end Go.Proofs.YtodjccfaipkpfaaDoor.Qs
