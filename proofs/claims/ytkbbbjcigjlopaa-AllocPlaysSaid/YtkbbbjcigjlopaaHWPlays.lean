/-
  The law AllocPlays in the words of what comes in.
-/
import Derived.Test.YtkbbbjcigjlopaaHLPlays
import Derived.Test.YtkbbbjcigjlopaaInD
namespace Go.Proofs.Ytkbbbjcigjlopaa.H
set_option linter.unusedVariables false
open Go.RowKit V D

theorem plays_law2 (r l e : Int) (ls : List Dt) (a : Option Addr) (c : Nat) (w : World) (h0 : (Lit.int .i64 r).wf = true) (h1 : (Lit.int .i64 l).wf = true) (h2 : (Lit.int .i64 e).wf = true)
    (hlx : ls.length ≤ 9223372036854775807) (hx : RowD w a ls) (hn : a = none → c = 0) (hwf : ∀ x ∈ ls, wfD x) (hc : ls.length ≤ c) :
    Calls Try.prog 4 #[.int .i64 r, .int .i64 l, .int .i64 e, .slice a ls.length c] w fun x w' => x = .returned (.bool true) ∧ Below w.heap.size w w' := plays_law r l e ls a c w hx hlx
end Go.Proofs.Ytkbbbjcigjlopaa.H
