/-
  Hexadecimal text as numbers: the library's way.
-/
import Derived.Test.YtkcbekebleodaaaGreatRBase
import Derived.Test.YtkcbekebleodaaaGreatShelf
import Derived.Laws.EntriesVeiled
import Derived.Deep.CutRange
import Derived.Deep.CutBlock
namespace Go.Proofs.YtkcbekebleodaaaGreat.R
set_option linter.unusedVariables false
open Go.RowKit V



end Go.Proofs.YtkcbekebleodaaaGreat.R
