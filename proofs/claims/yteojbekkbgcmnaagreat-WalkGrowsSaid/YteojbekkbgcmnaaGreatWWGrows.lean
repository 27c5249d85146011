/-
  The law WalkGrows, as the row's frame asks for it.
-/
import Derived.Test.YteojbekkbgcmnaaGreatWLGrows
import Derived.Test.YteojbekkbgcmnaaGreatQIn
namespace Go.Proofs.YteojbekkbgcmnaaGreat.Un
set_option linter.unusedVariables false
open Go.RowKit V D Nd

theorem fit_wfG {d : Dt} (h : wfD d) : Qs.fitD d := ⟨lit64w h.1.1 h.1.2, lit64w h.2.1 h.2.2⟩
theorem grows_law2 (l : List Nt) (a : Option Addr) (c : Nat) (z : Int) (d : Dt) (w : World) (hl : l.length ≤ 9223372036854775807) (hx : Qs.RowN w a l) (hna : a = none → c = 0) (hw : ∀ x ∈ l, wfN x) (hc : l.length ≤ c) (hz : (Lit.int .u8 z).wf = true) (hd : wfD d) :
    Calls Tryz.prog 4 #[.slice a l.length c, .int .u8 z, dv d] w fun e w' => e = .returned (.bool true) ∧ Below w.heap.size w w' := by
  have h := G.wf_u8 hz
  obtain ⟨t, rfl⟩ : ∃ t : Nat, z = (t : Int) := ⟨z.toNat, by omega⟩
  exact grows_law l t d a c w (by omega) (fun x h => (hw x h).2.2.2) (fun x h => ⟨fit_wfG (hw x h).1, fit_wfG (hw x h).2.1⟩) hx hna
end Go.Proofs.YteojbekkbgcmnaaGreat.Un
