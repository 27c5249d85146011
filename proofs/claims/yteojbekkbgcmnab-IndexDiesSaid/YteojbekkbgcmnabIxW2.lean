/-
  The law IndexDies, as the row's frame asks for it.
-/
import Derived.Test.YteojbekkbgcmnabIxLD
import Derived.Test.YteojbekkbgcmnabQIn
namespace Go.Proofs.Yteojbekkbgcmnab.Un
set_option linter.unusedVariables false
open Go.RowKit V D Nd

theorem fit_wfI {d : Dt} (h : wfD d) : Qs.fitD d := by
  unfold wfD at h
  refine ⟨?_, ?_⟩ <;> (simp only [Lit.wf, IntKind.min, IntKind.max, IntKind.signed, IntKind.bits]; simp; omega)
theorem idies_law2 (l : List Nt) (a : Option Addr) (c : Nat) (z : Int) (w : World) (hl : l.length ≤ 9223372036854775807) (hx : Qs.RowN w a l) (hna : a = none → c = 0) (hw : ∀ x ∈ l, wfN x) (hc : l.length ≤ c) (hz : (Lit.int .u8 z).wf = true) :
    Calls Try.prog 6 #[.slice a l.length c, .int .u8 z] w fun e w' => e = .returned (.bool true) ∧ Below w.heap.size w w' := by
  have h := G.wf_u8 hz
  obtain ⟨t, rfl⟩ : ∃ t : Nat, z = (t : Int) := ⟨z.toNat, by omega⟩
  exact dies_law l t a c w (by omega) (fun x h => (hw x h).2.2.2) (fun x h => ⟨fit_wfI (hw x h).1, fit_wfI (hw x h).2.1⟩) hx hna
end Go.Proofs.Yteojbekkbgcmnab.Un
