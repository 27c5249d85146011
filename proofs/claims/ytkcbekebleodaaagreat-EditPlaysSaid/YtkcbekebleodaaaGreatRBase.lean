/-
  Numbers as hexadecimal text: the library's way.
-/
import Derived.Test.YtkcbekebleodaaaGreatVOwn
import Derived.Test.YtkcbekebleodaaaGreatMGen
import Derived.Test.YtkcbekebleodaaaGreatRHex
import Derived.Laws.BitsAllLaws
import Derived.WalkSmall
import Derived.OneCell
namespace Go.Proofs.YtkcbekebleodaaaGreat.R
set_option linter.unusedVariables false
open Go.RowKit V



def hex (n : Nat) : List UInt8 := (digs n).map dl


end Go.Proofs.YtkcbekebleodaaaGreat.R
