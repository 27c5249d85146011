/-
  The laws IndexTexts, IndexFinds, IndexParts, as the rows' frames ask for them.
-/
import Derived.Test.YteojbekkbgcmnabIxLT
import Derived.Test.YteojbekkbgcmnabIxLF
import Derived.Test.YteojbekkbgcmnabIxLP
import Derived.Test.YteojbekkbgcmnabQIn
namespace Go.Proofs.Yteojbekkbgcmnab.Un
set_option linter.unusedVariables false
open Go.RowKit V D Nd

theorem itexts_law2 (l : List Nt) (a : Option Addr) (c : Nat) (w : World) (hl : l.length ≤ 9223372036854775807) (hx : Qs.RowN w a l) (hna : a = none → c = 0) (hw : ∀ x ∈ l, wfN x) (hc : l.length ≤ c) :
    Calls Try.prog 3 #[.slice a l.length c] w fun e w' => e = .returned (.bool true) ∧ Below w.heap.size w w' :=
  texts_law l a c w (fun x h => (hw x h).2.2.2) hx hna
theorem ifinds_law2 (l : List Nt) (a : Option Addr) (c : Nat) (i : Int) (d : Dt) (w : World) (hl : l.length ≤ 9223372036854775807) (hx : Qs.RowN w a l) (hna : a = none → c = 0) (hw : ∀ x ∈ l, wfN x) (hc : l.length ≤ c) (hi : (Lit.int .i64 i).wf = true) (hd : wfD d) :
    Calls Try.prog 4 #[.slice a l.length c, .int .i64 i, dv d] w fun e w' => e = .returned (.bool true) ∧ Below w.heap.size w w' :=
  finds_law l i d a c w (fun x h => (hw x h).2.2.2) hx
theorem iparts_law2 (l : List Nt) (a : Option Addr) (c : Nat) (i f t : Int) (w : World) (hl : l.length ≤ 9223372036854775807) (hx : Qs.RowN w a l) (hna : a = none → c = 0) (hw : ∀ x ∈ l, wfN x) (hc : l.length ≤ c) (hi : (Lit.int .i64 i).wf = true) (hf : (Lit.int .i64 f).wf = true) (ht : (Lit.int .i64 t).wf = true) :
    Calls Try.prog 5 #[.slice a l.length c, .int .i64 i, .int .i64 f, .int .i64 t] w fun e w' => e = .returned (.bool true) ∧ Below w.heap.size w w' :=
  parts_law l i f t a c w (fun x h => (hw x h).2.2.2) hx
end Go.Proofs.Yteojbekkbgcmnab.Un
