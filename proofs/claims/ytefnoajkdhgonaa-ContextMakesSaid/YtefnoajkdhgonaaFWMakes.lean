/-
  The law ContextMakes in the words of what comes in.
-/
import Derived.Test.YtefnoajkdhgonaaFLMakes
import Derived.Test.YtefnoajkdhgonaaInC
namespace Go.Proofs.Ytefnoajkdhgonaa.F
set_option linter.unusedVariables false
open Go.RowKit V D

theorem makes_law2 (xs : List Dt) (a : Option Addr) (n : Nat) (ys : List Dt) (b : Option Addr) (m : Nat) (l : List Dt) (p : Option Addr) (j : Nat) (w : World) (hx : InL w a xs n) (hy : InL w b ys m) (hl0 : l.length ≤ 9223372036854775807) (hl : RowD w p l) (hnl : p = none → j = 0) (hwl : ∀ x ∈ l, wfD x) (hcl : l.length ≤ j) :
    Calls Try.prog 5 #[cv (.slice a xs.length n) (.slice b ys.length m), .slice p l.length j] w fun e w' => e = .returned (.bool true) ∧ Below w.heap.size w w' :=
  makes_law xs ys l a b p n m j w hx.2.1 hy.2.1 hl hx.2.2.1 hy.2.2.1 hnl hx.2.2.2.2 hx.1 hy.1 hl0
end Go.Proofs.Ytefnoajkdhgonaa.F
