/-
  The law IndexHolds, as the row's frame asks for it.
-/
import Derived.Test.YteojbekkbgcmnabIxLH
import Derived.Test.YteojbekkbgcmnabQIn
namespace Go.Proofs.Yteojbekkbgcmnab.Un
set_option linter.unusedVariables false
open Go.RowKit V D Nd

theorem iholds_law2 (l : List Nt) (a : Option Addr) (c : Nat) (t : Int) (w : World) (hl : l.length ≤ 9223372036854775807) (hx : Qs.RowN w a l) (hna : a = none → c = 0) (hw : ∀ x ∈ l, wfN x) (hc : l.length ≤ c) (ht : (Lit.int .i64 t).wf = true) :
    Calls Try.prog 7 #[.slice a l.length c, .int .i64 t] w fun e w' => e = .returned (.bool true) ∧ Below w.heap.size w w' :=
  iholds_law l t a c w hx
end Go.Proofs.Yteojbekkbgcmnab.Un
