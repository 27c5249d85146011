/-
  The reference's Same, Has and IsSet.
-/
import Derived.Test.YtmmcnpcijeahcabGreatDoorDCmp
import Derived.Deep.QuietTactic
namespace Go.Proofs.YtmmcnpcijeahcabGreatDoor.D
set_option linter.unusedVariables false
open Go.RowKit V Go.Sort

theorem RowD.get {w wr : World} {a : Option Addr} {l : List Dt} (h : RowD w a l) (hb : Below w.heap.size w wr) (k : Nat) (hk : k < l.length) :
    ∃ b o, a = some ⟨b, o, none⟩ ∧ wr.cell? ⟨b, o + k * 2, none⟩ = some (.int .i64 l[k].1) ∧ wr.cell? ⟨b, o + k * 2 + 1, none⟩ = some (.int .i64 l[k].2) := by
  have h' := h.keep hb
  rcases h' with rfl | ⟨b, o, rfl, hc⟩
  · simp at hk
  · exact ⟨b, o, rfl, hc k hk⟩

theorem neq_yes {p q : Dt} (h : ¬ p = q) : ∀ w, Sem.run Tryz.prog (binOp .neq 23 (.agg #[.int .i64 p.1, .int .i64 p.2]) (.agg #[.int .i64 q.1, .int .i64 q.2])) w = .ok (.bool true) w := by
  intro w
  have := neq_dot p q w
  rwa [decide_eq_false h] at this
theorem eql_no {p q : Dt} (h : ¬ p = q) : ∀ w, Sem.run Tryz.prog (binOp .eql 23 (.agg #[.int .i64 p.1, .int .i64 p.2]) (.agg #[.int .i64 q.1, .int .i64 q.2])) w = .ok (.bool false) w := by
  intro w
  have := eql_dot p q w
  rwa [decide_eq_false h] at this

end Go.Proofs.YtmmcnpcijeahcabGreatDoor.D
