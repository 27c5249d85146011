/-
  Layer 16: DigestOf, DigestHolds, as the rows' frames ask for them.
-/
import Derived.Test.YtgopkffgljiblaaDgO
import Derived.Test.YtgopkffgljiblaaQIn
namespace Go.Proofs.Ytgopkffgljiblaa.Dg
set_option linter.unusedVariables false
open Go.RowKit V D Nd Qs Jn

theorem lit64w {z : Int} (h1 : -9223372036854775808 ≤ z) (h2 : z ≤ 9223372036854775807) : (Lit.int .i64 z).wf = true := by
  simp only [Lit.wf, IntKind.min, IntKind.max, IntKind.signed, IntKind.bits]
  simp
  omega
theorem fit_wfw {d : Dt} (h : wfD d) : fitD d := ⟨lit64w h.1.1 h.1.2, lit64w h.2.1 h.2.2⟩
theorem fit_inw {l : List Nt} (hw : ∀ x ∈ l, wfN x) : ∀ x ∈ l, fitN x := fun x h => ⟨fit_wfw (hw x h).1, fit_wfw (hw x h).2.1⟩
theorem of_law2 (l : List Nt) (a : Option Addr) (c : Nat) (w : World) (hl : l.length ≤ 9223372036854775807) (hx : Qs.RowN w a l) (hna : a = none → c = 0) (hw : ∀ x ∈ l, wfN x) (hc : l.length ≤ c) :
    Calls Try.prog 3 #[.slice a l.length c] w fun e w' => e = .returned (.bool true) ∧ Below w.heap.size w w' := of_law l a c w hx
theorem holds_law2 (l : List Nt) (a : Option Addr) (c : Nat) (m : List Nt) (b : Option Addr) (d : Nat) (w : World) (hl : l.length ≤ 9223372036854775807) (hx : Qs.RowN w a l) (hna : a = none → c = 0) (hw : ∀ x ∈ l, wfN x) (hc : l.length ≤ c)
    (hm : m.length ≤ 9223372036854775807) (hy : Qs.RowN w b m) (hnb : b = none → d = 0) (hv : ∀ x ∈ m, wfN x) (hd : m.length ≤ d) :
    Calls Try.prog 4 #[.slice a l.length c, .slice b m.length d] w fun e w' => e = .returned (.bool true) ∧ Below w.heap.size w w' :=
  holds_law l m a b c d w (fit_inw hw) (fit_inw hv) ⟨rfl, hx, hna, hc⟩ ⟨rfl, hy, hnb, hd⟩
end Go.Proofs.Ytgopkffgljiblaa.Dg
