/-
  Hexadecimal digits, and the names of runes, plainly.
-/
import Derived.Test.YtkcbekebleodaaaGreatMRUtf
import Derived.Lib.Case
import Derived.Lib.Repeat
namespace Go.Proofs.YtkcbekebleodaaaGreat.R
set_option linter.unusedVariables false

/-- The digits of a number, the greatest first. -/
def digs (n : Nat) : List Nat := if n < 16 then [n] else digs (n / 16) ++ [n % 16]
termination_by n
decreasing_by omega


def dl (d : Nat) : UInt8 := if d < 10 then u (48 + d) else u (87 + d)




/-! ### Reading digits -/
/-- The value of a digit of one of 36, or none. -/
def hv (c : UInt8) : Option Nat :=
  if 48 ≤ c.toNat ∧ c.toNat ≤ 57 then some (c.toNat - 48)
  else if 65 ≤ c.toNat ∧ c.toNat ≤ 70 then some (c.toNat - 55)
  else if 97 ≤ c.toNat ∧ c.toNat ≤ 102 then some (c.toNat - 87)
  else none




end Go.Proofs.YtkcbekebleodaaaGreat.R
