/-
  The law ContextLooks in the words of what comes in.
-/
import Derived.Test.YtefnoajkdhgonaaFLLooks
import Derived.Test.YtefnoajkdhgonaaInC
namespace Go.Proofs.Ytefnoajkdhgonaa.F
set_option linter.unusedVariables false
open Go.RowKit V D

theorem looks_law2 (xs : List Dt) (a : Option Addr) (n : Nat) (ys : List Dt) (b : Option Addr) (m : Nat) (us : List Dt) (p : Option Addr) (j : Nat) (vs : List Dt) (q : Option Addr) (k : Nat) (w : World) (hx : InL w a xs n) (hy : InL w b ys m) (hu : InL w p us j) (hv : InL w q vs k) :
    Calls Try.prog 3 #[cv (.slice a xs.length n) (.slice b ys.length m), cv (.slice p us.length j) (.slice q vs.length k)] w fun e w' => e = .returned (.bool true) ∧ Below w.heap.size w w' :=
  looks_law xs ys us vs a b p q n m j k w hx.2.1 hy.2.1 hu.2.1 hv.2.1 hx.2.2.1 hy.2.2.1 hx.2.2.2.2 hy.2.2.2.2
end Go.Proofs.Ytefnoajkdhgonaa.F
