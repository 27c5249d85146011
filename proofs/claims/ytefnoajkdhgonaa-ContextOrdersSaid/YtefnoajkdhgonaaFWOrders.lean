/-
  The law ContextOrders in the words of what comes in.
-/
import Derived.Test.YtefnoajkdhgonaaFLOrders
import Derived.Test.YtefnoajkdhgonaaInC
namespace Go.Proofs.Ytefnoajkdhgonaa.F
set_option linter.unusedVariables false
open Go.RowKit V D

theorem orders_law2 (xs : List Dt) (a : Option Addr) (n : Nat) (ys : List Dt) (b : Option Addr) (m : Nat) (l : List Dt) (p : Option Addr) (j : Nat) (z : Int) (w : World) (hx : InL w a xs n) (hy : InL w b ys m) (hl0 : l.length ≤ 9223372036854775807) (hl : RowD w p l) (hnl : p = none → j = 0) (hwl : ∀ x ∈ l, wfD x) (hcl : l.length ≤ j) (hz : (Lit.int .u8 z).wf = true) :
    Calls Try.prog 7 #[cv (.slice a xs.length n) (.slice b ys.length m), .slice p l.length j, .int .u8 z] w fun e w' => e = .returned (.bool true) ∧ Below w.heap.size w w' :=
  by
  have h := G.wf_u8 hz
  obtain ⟨t, rfl⟩ : ∃ t : Nat, z = (t : Int) := ⟨z.toNat, by omega⟩
  exact orders_law xs ys l a b p n m j t w (by omega) hx.2.1 hy.2.1 hl hx.2.2.1 hy.2.2.1 hx.2.2.2.2 hy.2.2.2.2 hcl hl0
end Go.Proofs.Ytefnoajkdhgonaa.F
