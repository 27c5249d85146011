/-
  The laws of layer 14, as the rows' frames ask for them.
-/
import Derived.Test.YtmdebedkljpagaaJnLA
import Derived.Test.YtmdebedkljpagaaQIn
namespace Go.Proofs.Ytmdebedkljpagaa.Jn
set_option linter.unusedVariables false
open Go.RowKit V D Nd Qs

theorem valid_law2 (l : List Nt) (a : Option Addr) (c : Nat) (m : List Nt) (b : Option Addr) (d : Nat) (w : World) (hl : l.length ≤ 9223372036854775807) (hx : Qs.RowN w a l) (hna : a = none → c = 0) (hw : ∀ x ∈ l, wfN x) (hc : l.length ≤ c)
    (hm : m.length ≤ 9223372036854775807) (hy : Qs.RowN w b m) (hnb : b = none → d = 0) (hv : ∀ x ∈ m, wfN x) (hd : m.length ≤ d) :
    Calls Try.prog 3 #[.slice a l.length c, .slice b m.length d] w fun e w' => e = .returned (.bool true) ∧ Below w.heap.size w w' :=
  valid_law l m a b c d w ⟨rfl, hx, hna, hc⟩ ⟨rfl, hy, hnb, hd⟩
theorem joins_law2 (l : List Nt) (a : Option Addr) (c : Nat) (m : List Nt) (b : Option Addr) (d : Nat) (w : World) (hl : l.length ≤ 9223372036854775807) (hx : Qs.RowN w a l) (hna : a = none → c = 0) (hw : ∀ x ∈ l, wfN x) (hc : l.length ≤ c)
    (hm : m.length ≤ 9223372036854775807) (hy : Qs.RowN w b m) (hnb : b = none → d = 0) (hv : ∀ x ∈ m, wfN x) (hd : m.length ≤ d) :
    Calls Try.prog 4 #[.slice a l.length c, .slice b m.length d] w fun e w' => e = .returned (.bool true) ∧ Below w.heap.size w w' :=
  joins_law l m a b c d w ⟨rfl, hx, hna, hc⟩ ⟨rfl, hy, hnb, hd⟩
theorem withins_law2 (l : List Nt) (a : Option Addr) (c : Nat) (m : List Nt) (b : Option Addr) (d : Nat) (w : World) (hl : l.length ≤ 9223372036854775807) (hx : Qs.RowN w a l) (hna : a = none → c = 0) (hw : ∀ x ∈ l, wfN x) (hc : l.length ≤ c)
    (hm : m.length ≤ 9223372036854775807) (hy : Qs.RowN w b m) (hnb : b = none → d = 0) (hv : ∀ x ∈ m, wfN x) (hd : m.length ≤ d) :
    Calls Try.prog 6 #[.slice a l.length c, .slice b m.length d] w fun e w' => e = .returned (.bool true) ∧ Below w.heap.size w w' :=
  withins_law l m a b c d w ⟨rfl, hx, hna, hc⟩ ⟨rfl, hy, hnb, hd⟩
end Go.Proofs.Ytmdebedkljpagaa.Jn
