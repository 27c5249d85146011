/-
  The law StorePuts, as the row's frame asks for it.
-/
import Derived.Test.YtfpfihmihlmobaaGreatQLPuts
import Derived.Test.YtfpfihmihlmobaaGreatMQWLooks
namespace Go.Proofs.YtfpfihmihlmobaaGreat.Qs
set_option linter.unusedVariables false
open Go.RowKit V D Nd

theorem puts_law2 (l : List Nt) (a : Option Addr) (c : Nat) (d : Dt) (n : Nt) (w : World) (hl : l.length ≤ 9223372036854775807) (hx : RowN w a l) (hna : a = none → c = 0) (hw : ∀ x ∈ l, wfN x) (hc : l.length ≤ c) (hd : wfD d) (hn : wfN n) :
    Calls Tryz.prog 4 #[.slice a l.length c, dv d, nv n] w fun e w' => e = .returned (.bool true) ∧ Below w.heap.size w w' :=
  puts_law l d n a c w (fit_in hw) (fun x h => (hw x h).2.2.2) (fit_wf hd) ⟨fit_wf hn.1, fit_wf hn.2.1⟩ hn.2.2.2 hx hna hc hl
end Go.Proofs.YtfpfihmihlmobaaGreat.Qs
