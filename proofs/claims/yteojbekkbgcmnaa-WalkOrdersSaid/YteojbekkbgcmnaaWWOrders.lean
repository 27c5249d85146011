/-
  The laws of layer 11, as the rows' frames ask for them.
-/
import Derived.Test.YteojbekkbgcmnaaWLOrders
import Derived.Test.YteojbekkbgcmnaaQIn
namespace Go.Proofs.Yteojbekkbgcmnaa.Un
set_option linter.unusedVariables false
open Go.RowKit V D Nd

theorem orders_law2 (l : List Nt) (a : Option Addr) (c : Nat) (z : Int) (w : World) (hl : l.length ≤ 9223372036854775807) (hx : Qs.RowN w a l) (hna : a = none → c = 0) (hw : ∀ x ∈ l, wfN x) (hc : l.length ≤ c) (hz : (Lit.int .u8 z).wf = true) :
    Calls Try.prog 4 #[.slice a l.length c, .int .u8 z] w fun e w' => e = .returned (.bool true) ∧ Below w.heap.size w w' := by
  have h := G.wf_u8 hz
  obtain ⟨t, rfl⟩ : ∃ t : Nat, z = (t : Int) := ⟨z.toNat, by omega⟩
  exact orders_law l t a c w (by omega) (fun x h => (hw x h).2.2.2) hx
end Go.Proofs.Yteojbekkbgcmnaa.Un
