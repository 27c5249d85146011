/-
  UTF-8, plainly: the bytes of a number, the first character of some bytes, and all of them.
-/
import GoSem.Core.Utf8
import Derived.Lib.Strings

section
namespace Go.Proofs.YtkcbekebleodaaaGreat.R
set_option linter.unusedVariables false


def u (n : Nat) : UInt8 := UInt8.ofNat n

/-- The bytes of a scalar value. -/
def enc (n : Nat) : List UInt8 :=
  if n < 128 then [u n]
  else if n < 2048 then [u (192 + n / 64), u (128 + n % 64)]
  else if n < 65536 then [u (224 + n / 4096), u (128 + n / 64 % 64), u (128 + n % 64)]
  else [u (240 + n / 262144), u (128 + n / 4096 % 64), u (128 + n / 64 % 64), u (128 + n % 64)]



/-! ### The first character: the number and how many bytes, (65533, 1) if there is none -/






end Go.Proofs.YtkcbekebleodaaaGreat.R
end

/-
  All the characters of some bytes, and their bytes again.
-/
section
namespace Go.Proofs.YtkcbekebleodaaaGreat.R
set_option linter.unusedVariables false











/-- A rune that may be in a text. -/
def vld (r : Int) : Bool := decide (0 < r) && decide (r < 55296) || decide (57344 ≤ r) && decide (r ≤ 1114111)
theorem vld_iff {r : Int} : vld r = true ↔ (0 < r ∧ r < 55296) ∨ (57344 ≤ r ∧ r ≤ 1114111) := by simp [vld]

end Go.Proofs.YtkcbekebleodaaaGreat.R
end
