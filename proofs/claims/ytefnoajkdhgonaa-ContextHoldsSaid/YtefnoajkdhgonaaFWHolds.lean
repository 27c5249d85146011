/-
  The law ContextHolds in the words of what comes in.
-/
import Derived.Test.YtefnoajkdhgonaaFLHolds
import Derived.Test.YtefnoajkdhgonaaInC
namespace Go.Proofs.Ytefnoajkdhgonaa.F
set_option linter.unusedVariables false
open Go.RowKit V D

theorem holds_law2 (xs : List Dt) (a : Option Addr) (n : Nat) (ys : List Dt) (b : Option Addr) (m : Nat) (us : List Dt) (p : Option Addr) (j : Nat) (vs : List Dt) (q : Option Addr) (k : Nat) (zs : List Dt) (c : Option Addr) (o : Nat) (ts : List Dt) (g : Option Addr) (r : Nat) (d : Dt) (w : World) (hx : InL w a xs n) (hy : InL w b ys m) (hu : InL w p us j) (hv : InL w q vs k) (hz : InL w c zs o) (ht : InL w g ts r) (hd : wfD d) :
    Calls Try.prog 8 #[cv (.slice a xs.length n) (.slice b ys.length m), cv (.slice p us.length j) (.slice q vs.length k), cv (.slice c zs.length o) (.slice g ts.length r), dv d] w fun e w' => e = .returned (.bool true) ∧ Below w.heap.size w w' :=
  holds_law xs ys us vs zs ts a b p q c g n m j k o r d w hx.2.1 hy.2.1 hu.2.1 hv.2.1 hz.2.1 ht.2.1 hx.2.2.1 hy.2.2.1 hu.2.2.1 hv.2.2.1 hz.2.2.1 ht.2.2.1
end Go.Proofs.Ytefnoajkdhgonaa.F
