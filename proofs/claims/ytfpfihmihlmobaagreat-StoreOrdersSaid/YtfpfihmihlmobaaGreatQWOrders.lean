/-
  The law StoreOrders, as the row's frame asks for it.
-/
import Derived.Test.YtfpfihmihlmobaaGreatQLOrders
import Derived.Test.YtfpfihmihlmobaaGreatMQWLooks
namespace Go.Proofs.YtfpfihmihlmobaaGreat.Qs
set_option linter.unusedVariables false
open Go.RowKit V D Nd

theorem orders_law2 (l : List Nt) (a : Option Addr) (c : Nat) (z : Int) (w : World) (hl : l.length ≤ 9223372036854775807) (hx : RowN w a l) (hna : a = none → c = 0) (hw : ∀ x ∈ l, wfN x) (hc : l.length ≤ c) (hz : (Lit.int .u8 z).wf = true) :
    Calls Tryz.prog 7 #[.slice a l.length c, .int .u8 z] w fun e w' => e = .returned (.bool true) ∧ Below w.heap.size w w' := by
  have h := G.wf_u8 hz
  obtain ⟨t, rfl⟩ : ∃ t : Nat, z = (t : Int) := ⟨z.toNat, by omega⟩
  exact orders_law l t a c w (by omega) (fit_in hw) hx hna hc hl
end Go.Proofs.YtfpfihmihlmobaaGreat.Qs
