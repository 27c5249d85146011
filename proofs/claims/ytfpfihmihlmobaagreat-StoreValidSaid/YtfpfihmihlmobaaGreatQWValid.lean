/-
  The law StoreValid, as the row's frame asks for it.
-/
import Derived.Test.YtfpfihmihlmobaaGreatQLValid
import Derived.Test.YtfpfihmihlmobaaGreatMQWLooks
namespace Go.Proofs.YtfpfihmihlmobaaGreat.Qs
set_option linter.unusedVariables false
open Go.RowKit V D Nd

theorem valid_law2 (l : List Nt) (a : Option Addr) (c : Nat) (m : List Nt) (b : Option Addr) (n : Nat) (w : World) (hl : l.length ≤ 9223372036854775807) (hx : RowN w a l) (hna : a = none → c = 0) (hw : ∀ x ∈ l, wfN x) (hc : l.length ≤ c) (hl2 : m.length ≤ 9223372036854775807) (hy : RowN w b m) (hnb : b = none → n = 0) (hw2 : ∀ x ∈ m, wfN x) (hc2 : m.length ≤ n) :
    Calls Tryz.prog 3 #[.slice a l.length c, .slice b m.length n] w fun e w' => e = .returned (.bool true) ∧ Below w.heap.size w w' :=
  valid_law l m a b c n w (fit_in hw) (fun x h => (hw x h).2.2.2) hx hy hna hl hl2
end Go.Proofs.YtfpfihmihlmobaaGreat.Qs
