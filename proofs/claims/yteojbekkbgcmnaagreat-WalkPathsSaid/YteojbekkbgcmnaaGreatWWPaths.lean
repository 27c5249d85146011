/-
  The laws of layer 11, as the rows' frames ask for them.
-/
import Derived.Test.YteojbekkbgcmnaaGreatWLPaths
import Derived.Test.YteojbekkbgcmnaaGreatQIn
namespace Go.Proofs.YteojbekkbgcmnaaGreat.Un
set_option linter.unusedVariables false
open Go.RowKit V D Nd

theorem paths_law2 (l : List Nt) (a : Option Addr) (c : Nat) (d : Dt) (w : World) (hl : l.length ≤ 9223372036854775807) (hx : Qs.RowN w a l) (hna : a = none → c = 0) (hw : ∀ x ∈ l, wfN x) (hc : l.length ≤ c) (hd : wfD d) :
    Calls Tryz.prog 3 #[.slice a l.length c, dv d] w fun e w' => e = .returned (.bool true) ∧ Below w.heap.size w w' :=
  paths_law l d a c w (fun x h => (hw x h).2.2.2) hx
end Go.Proofs.YteojbekkbgcmnaaGreat.Un
