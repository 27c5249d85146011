/-
  The text of a dot, plainly, and what is read as one.
-/
import Derived.Test.YtkcbekebleodaaaGreatDPure
import Derived.Lib.ItoaNum
import Derived.Lib.ItoaMem

section
namespace Go.Proofs.YtkcbekebleodaaaGreat.D
set_option linter.unusedVariables false
open Go.Lib

def validR (d : Dt) : Bool := decide (0 < d.1) && decide (d.1 ≤ 64) && decide (0 < d.2) && decide (d.2 ≤ 4294967295)
theorem valid_iff {d : Dt} : validR d = true ↔ 0 < d.1 ∧ d.1 ≤ 64 ∧ 0 < d.2 ∧ d.2 ≤ 4294967295 := by
  unfold validR
  simp only [Bool.and_eq_true, decide_eq_true_eq]
  constructor
  · rintro ⟨⟨⟨h1, h2⟩, h3⟩, h4⟩; exact ⟨h1, h2, h3, h4⟩
  · rintro ⟨h1, h2, h3, h4⟩; exact ⟨⟨⟨h1, h2⟩, h3⟩, h4⟩
def rootR (d : Dt) : Bool := decide (d.1 = 0) && decide (d.2 = 0)
theorem root_iff {d : Dt} : rootR d = true ↔ d = (0, 0) := by
  unfold rootR
  simp only [Bool.and_eq_true, decide_eq_true_eq]
  exact ⟨fun ⟨h1, h2⟩ => Prod.ext h1 h2, fun h => by subst h; exact ⟨rfl, rfl⟩⟩
/-- Which dots have a text. -/
def named (d : Dt) : Prop := validR d = true ∨ rootR d = true


/-! ### Reading -/
end Go.Proofs.YtkcbekebleodaaaGreat.D
end

/-
  Version vectors, plainly.
-/
section
namespace Go.Proofs.YtkcbekebleodaaaGreat.E
set_option linter.unusedVariables false
open D



/-! ### One more dot -/

/-! ### Merging -/

/-! ### Order -/
end Go.Proofs.YtkcbekebleodaaaGreat.E
end

/-
  Causal contexts, plainly: a vector and a cloud.
-/
section
namespace Go.Proofs.YtkcbekebleodaaaGreat.F
set_option linter.unusedVariables false
open D E


/-! ### Compaction: one pass -/

/-! ### Union, more dots, within -/

/-! ### How many dots -/
end Go.Proofs.YtkcbekebleodaaaGreat.F
end
