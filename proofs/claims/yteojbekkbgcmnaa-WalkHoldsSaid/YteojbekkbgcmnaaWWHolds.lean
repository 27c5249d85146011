/-
  The law WalkHolds, as the row's frame asks for it.
-/
import Derived.Test.YteojbekkbgcmnaaWLHolds
import Derived.Test.YteojbekkbgcmnaaQIn
namespace Go.Proofs.Yteojbekkbgcmnaa.Un
set_option linter.unusedVariables false
open Go.RowKit V D Nd

theorem fit_wfH {d : Dt} (h : wfD d) : Qs.fitD d := by
  unfold wfD at h
  refine ⟨?_, ?_⟩ <;> (simp only [Lit.wf, IntKind.min, IntKind.max, IntKind.signed, IntKind.bits]; simp; omega)
theorem holds_law2 (l : List Nt) (a : Option Addr) (c : Nat) (w : World) (hl : l.length ≤ 9223372036854775807) (hx : Qs.RowN w a l) (hna : a = none → c = 0) (hw : ∀ x ∈ l, wfN x) (hc : l.length ≤ c) :
    Calls Try.prog 6 #[.slice a l.length c] w fun e w' => e = .returned (.bool true) ∧ Below w.heap.size w w' :=
  holds_law l a c w (fun x h => ⟨fit_wfH (hw x h).1, fit_wfH (hw x h).2.1⟩) hx
end Go.Proofs.Yteojbekkbgcmnaa.Un
