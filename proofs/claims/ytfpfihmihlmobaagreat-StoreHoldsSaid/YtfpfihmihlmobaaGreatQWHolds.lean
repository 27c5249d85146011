/-
  The law StoreHolds, as the row's frame asks for it.
-/
import Derived.Test.YtfpfihmihlmobaaGreatQLHolds
import Derived.Test.YtfpfihmihlmobaaGreatMQWLooks
namespace Go.Proofs.YtfpfihmihlmobaaGreat.Qs
set_option linter.unusedVariables false
open Go.RowKit V D Nd

theorem holds_law2 (l : List Nt) (a : Option Addr) (c : Nat) (n : Nt) (ds : List Dt) (b : Option Addr) (m : Nat) (w : World) (hl : l.length ≤ 9223372036854775807) (hx : RowN w a l) (hna : a = none → c = 0) (hw : ∀ x ∈ l, wfN x) (hc : l.length ≤ c) (hn : wfN n) (hl2 : ds.length ≤ 9223372036854775807) (hy : RowD w b ds) (hnb : b = none → m = 0) (hw2 : ∀ x ∈ ds, wfD x) (hc2 : ds.length ≤ m) :
    Calls Tryz.prog 8 #[.slice a l.length c, nv n, .slice b ds.length m] w fun e w' => e = .returned (.bool true) ∧ Below w.heap.size w w' :=
  holds_law l n ds a b c m w (fit_in hw) ⟨fit_wf hn.1, fit_wf hn.2.1⟩ (fun x h => fit_wf (hw2 x h)) hx hy hna hl hl2
end Go.Proofs.YtfpfihmihlmobaaGreat.Qs
