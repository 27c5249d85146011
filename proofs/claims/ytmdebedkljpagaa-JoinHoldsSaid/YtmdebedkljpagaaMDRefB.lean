/-
  IsSet: the reference's and the program's.
-/
import Derived.Test.YtmdebedkljpagaaMDCmp
import Derived.Shelf.SlSortCmp.QuietGrown

section
namespace Go.Proofs.Ytmdebedkljpagaa.D
set_option linter.unusedVariables false
open Go.RowKit V Go.Sort

theorem mixed : Try.prog.follows .mixedOrders = true := by kernel_rfl
theorem wrap_nat {k : Nat} (h : (k : Int) ≤ 140737488355328) : IntKind.i64.wrap (k : Int) = k := by simp [IntKind.wrap, IntKind.bits, IntKind.signed]; omega
/-- A cell, in every world that lays and draws. -/
theorem cellG {w : World} {a : Addr} {v : Value} (h : w.cell? a = some v) : ∀ n os, (grow (w.drewN n) os).cell? a = some v := fun n os => cell_grown (lt_of_cell h) h n os
theorem cmpG (x y : Dt) (W : World) (n : Nat) (os : Array Obj) : Calls Try.prog 33 #[dv x, dv y] (grow (W.drewN n) os) fun e w'' => e = .returned (.int .i64 (cmpR x y)) ∧ ∃ p : GrownBy, w'' = grow (W.drewN p.n) p.os :=
  Calls.grown_of (compare_any x y _)
theorem bel_grown {B : Nat} {w w' : World} (h : Below B w w') (hB : B ≤ w'.heap.size) (n : Nat) (os : Array Obj) : Below B w (grow (w'.drewN n) os) := bel_grow (bel_drewN h n) hB os

theorem cmp_neg_lt {p q : Dt} (h : less p q = true) : ¬ (0 : Int) ≤ cmpR p q := by have := cmp_neg.2 h; omega
theorem cmp_neg_ge {p q : Dt} (h : less p q = false) : (0 : Int) ≤ cmpR p q := by
  rcases Int.lt_or_le (cmpR p q) 0 with k | k
  · rw [cmp_neg, h] at k; cases k
  · exact k
end Go.Proofs.Ytmdebedkljpagaa.D
end

/-
  Parts of rows of dots; append and new rows in a region that draws.
-/
section
namespace Go.Proofs.Ytmdebedkljpagaa.D
set_option linter.unusedVariables false
open Go.RowKit V Go.Sort

abbrev E : TypeId := 42
def off (a : Option Addr) (cap m : Nat) : Option Addr := if cap = m then a else a.map (·.add (m * 2))
theorem off_row {w : World} {a : Option Addr} {l : List Dt} (h : RowD w a l) (cap m : Nat) (hlc : l.length ≤ cap) (hm : m ≤ l.length) : RowD w (off a cap m) (l.drop m) := by
  unfold off
  split
  · left
    rw [List.drop_eq_nil_iff]; omega
  · rcases h with rfl | ⟨b, o, rfl, hc⟩
    · exact .inl (by simp)
    · have e : (⟨b, o, none⟩ : Addr).add (m * 2) = ⟨b, o + m * 2, none⟩ := by unfold Addr.add; split <;> simp_all
      rw [Option.map_some, e]
      exact RowD.drop (w := w) (b := b) (o := o) (l := l) (.inr ⟨b, o, rfl, hc⟩) m hm
theorem off_none {a : Option Addr} {cap m : Nat} (h : off a cap m = none) : a = none := by
  unfold off at h
  split at h
  · exact h
  · simpa using h

section
variable {P : Program} {Q : Exit → Act → World → Prop} {S : World → Prop} {l : List Oper} {i : Nat} {op : Oper} {r : Sch.Tr} {a : Act} {w : World}
theorem tree_appD (s y : Operand) (T : TypeId) (ho : Sch.nth l i = some op) (hop : op.op = .call { callee := .builtin .append, args := #[s, y], argTypes := #[T, T] }) (hw : Region.wanted op (yielded l.toArray a.tmps) = true)
    {base : Nat} {E : TypeId} (hT : P.underlying T = some (.slice E)) (hinfo : (P.info? E).map (fun i => (i.zero, i.size, i.bytes)) = some (some (.agg #[.int .i64 0, .int .i64 0]), 2, 16))
    (v : Value) (xs : List Dt) (hs : a.eval s = v) (h : OD w base E v xs) (ad : Option Addr) (m : List Dt) (c : Nat) (hx : a.eval y = .slice ad m.length c) (hrow : RowD w ad m) (hnil : ad = none → c = 0)
    (hlen : xs.length + m.length ≤ 8796093022208) (hbase : base ≤ w.heap.size)
    (hk : ∀ v' w', OD w' base E v' (xs ++ m) → w.grownBy w' v.ownBlock → G.Grew w v v' → S w' ∧ Sch.heldT P l.toArray Q S r (a.put op.dst v') w') : Sch.heldT P l.toArray Q S (.one i r) a w := by
  obtain ⟨v', w', hr, h2, h3, h4⟩ := run_appD hT hinfo h op.type ad m c hrow hnil hlen hbase
  obtain ⟨h5, h6⟩ := hk v' w' h2 h3 h4
  refine Sch.tree_e ho hw fun K hK => ?_
  unfold Oper.wp execOp
  simp only [hop, resolve, invoke, builtin, Sem.run_bind, Sem.run_pure, Result.andThen_ok, List.map_toArray, List.map_cons, List.map_nil, hs, hx, hr]
  exact hK _ _ h5 h6
end
/-- The row of one dot that is written out. -/
theorem lit_one (w : World) (d : Dt) (t : TypeId) : RowD (w.alloc (.cells #[.int .i64 d.1, .int .i64 d.2] t)) (some ⟨w.heap.size, 0, none⟩) [d] := RowD.lit w [d] _ t (0, 0) rfl
end Go.Proofs.Ytmdebedkljpagaa.D
end
