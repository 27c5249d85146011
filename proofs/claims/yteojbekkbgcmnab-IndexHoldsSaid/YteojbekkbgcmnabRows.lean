/-
  No cell of these rows narrows 'for every input' (looked for: loops, veiled, ifaces, maps, wideKeys, modest, calm, conditions, laid).
  DERIVED. THE GIVEN ROWS OF THIS SEAT. 5 by the template 'for every input the law returns true; each argument reads behind the call as it read before'; 0 by the template 'total and deterministic' (their statements: YteojbekkbgcmnabTotals.lean).
  GIVEN WITH THE SEED: the statements are not yours to turn. If you find one false, say at which input.
  Laid BY PROGRAM, IN A SANDBOX (cutbox-rows.mjs): the forced cells as the released guide's own fill.sh prints them over the translation ca5051ec90722f69… (all of the seat's roots in one cut). By AI agents, Wed Nov 11 2026. No macro, syntax, notation, axiom, sorry.
-/
import Derived.Test.YteojbekkbgcmnabChecked
import GoSem.Claim
import GoSem.ClaimJoined
import GoSem.ClaimMapViews
import Derived.JoinedTies
import Derived.KernelRfl
namespace Go.Proofs.Yteojbekkbgcmnab
/- THE CELL 'sum', in the pinned program and in every row, IS THE sha256 OF THE DUMP (.gsa) THAT YteojbekkbgcmnabProg.lean LOADS. Nothing in Lean hashes anything: it is a label: what it is worth is what the hold of that sum in a sandbox is worth. -/
noncomputable def Try.pinned : Pinned := { name := "yteojbekkbgcmnab", sum := "ca5051ec90722f699039a5c1cf4b9cf2127accf059f13fa21f18ce1e9553fdb6", checked := Try.checked }
namespace Rows
def none {H : Type} : Left H := { results := [], args := [] }

/-- 'redpencillaw12.IndexTexts': WHATEVER THE INPUT: true; the input reads as it did. -/
def indexTextsSpec : ChangeSpec := { name := "indexTexts", fn := fun _ => fun
  | [d] => { results := [.lit (.bool true)], args := [d] }
  | _ => none }
def indexTextsRow : OpenClaim := { program := "yteojbekkbgcmnab", sum := "ca5051ec90722f699039a5c1cf4b9cf2127accf059f13fa21f18ce1e9553fdb6", func := "redpencil/redpencillaw12.IndexTexts", spec := "indexTexts", unfollowed := true, recurses := true, plainKeys := false, apart := false }
def IndexTextsSaid : Prop := indexTextsRow.holds Try.pinned (OpenSpec.ofChange indexTextsSpec)

/-- ITS FALSE NEIGHBOUR: 'it returns false'. Refute it at one input. -/
def indexTextsWrong : ChangeSpec := { name := "indexTexts", fn := fun _ => fun
  | [d] => { results := [.lit (.bool false)], args := [d] }
  | _ => none }
def IndexTextsWrongFalsely : Prop := indexTextsRow.holds Try.pinned (OpenSpec.ofChange indexTextsWrong)

/-- 'redpencillaw12.IndexFinds': WHATEVER THE INPUT: true; the input reads as it did. -/
def indexFindsSpec : ChangeSpec := { name := "indexFinds", fn := fun _ => fun
  | [d1, d2, d3] => { results := [.lit (.bool true)], args := [d1, d2, d3] }
  | _ => none }
def indexFindsRow : OpenClaim := { program := "yteojbekkbgcmnab", sum := "ca5051ec90722f699039a5c1cf4b9cf2127accf059f13fa21f18ce1e9553fdb6", func := "redpencil/redpencillaw12.IndexFinds", spec := "indexFinds", unfollowed := true, recurses := true, plainKeys := false, apart := false }
def IndexFindsSaid : Prop := indexFindsRow.holds Try.pinned (OpenSpec.ofChange indexFindsSpec)

/-- ITS FALSE NEIGHBOUR: 'it returns false'. Refute it at one input. -/
def indexFindsWrong : ChangeSpec := { name := "indexFinds", fn := fun _ => fun
  | [d1, d2, d3] => { results := [.lit (.bool false)], args := [d1, d2, d3] }
  | _ => none }
def IndexFindsWrongFalsely : Prop := indexFindsRow.holds Try.pinned (OpenSpec.ofChange indexFindsWrong)

/-- 'redpencillaw12.IndexParts': WHATEVER THE INPUT: true; the input reads as it did. -/
def indexPartsSpec : ChangeSpec := { name := "indexParts", fn := fun _ => fun
  | [d1, d2, d3, d4] => { results := [.lit (.bool true)], args := [d1, d2, d3, d4] }
  | _ => none }
def indexPartsRow : OpenClaim := { program := "yteojbekkbgcmnab", sum := "ca5051ec90722f699039a5c1cf4b9cf2127accf059f13fa21f18ce1e9553fdb6", func := "redpencil/redpencillaw12.IndexParts", spec := "indexParts", unfollowed := true, recurses := true, plainKeys := false, apart := false }
def IndexPartsSaid : Prop := indexPartsRow.holds Try.pinned (OpenSpec.ofChange indexPartsSpec)

/-- ITS FALSE NEIGHBOUR: 'it returns false'. Refute it at one input. -/
def indexPartsWrong : ChangeSpec := { name := "indexParts", fn := fun _ => fun
  | [d1, d2, d3, d4] => { results := [.lit (.bool false)], args := [d1, d2, d3, d4] }
  | _ => none }
def IndexPartsWrongFalsely : Prop := indexPartsRow.holds Try.pinned (OpenSpec.ofChange indexPartsWrong)

/-- 'redpencillaw12.IndexDies': WHATEVER THE INPUT: true; the input reads as it did. -/
def indexDiesSpec : ChangeSpec := { name := "indexDies", fn := fun _ => fun
  | [d1, d2] => { results := [.lit (.bool true)], args := [d1, d2] }
  | _ => none }
def indexDiesRow : OpenClaim := { program := "yteojbekkbgcmnab", sum := "ca5051ec90722f699039a5c1cf4b9cf2127accf059f13fa21f18ce1e9553fdb6", func := "redpencil/redpencillaw12.IndexDies", spec := "indexDies", unfollowed := true, recurses := true, plainKeys := false, apart := false }
def IndexDiesSaid : Prop := indexDiesRow.holds Try.pinned (OpenSpec.ofChange indexDiesSpec)

/-- ITS FALSE NEIGHBOUR: 'it returns false'. Refute it at one input. -/
def indexDiesWrong : ChangeSpec := { name := "indexDies", fn := fun _ => fun
  | [d1, d2] => { results := [.lit (.bool false)], args := [d1, d2] }
  | _ => none }
def IndexDiesWrongFalsely : Prop := indexDiesRow.holds Try.pinned (OpenSpec.ofChange indexDiesWrong)

/-- 'redpencillaw12.IndexHolds': WHATEVER THE INPUT: true; the input reads as it did. -/
def indexHoldsSpec : ChangeSpec := { name := "indexHolds", fn := fun _ => fun
  | [d1, d2] => { results := [.lit (.bool true)], args := [d1, d2] }
  | _ => none }
def indexHoldsRow : OpenClaim := { program := "yteojbekkbgcmnab", sum := "ca5051ec90722f699039a5c1cf4b9cf2127accf059f13fa21f18ce1e9553fdb6", func := "redpencil/redpencillaw12.IndexHolds", spec := "indexHolds", unfollowed := true, recurses := true, plainKeys := false, apart := false }
def IndexHoldsSaid : Prop := indexHoldsRow.holds Try.pinned (OpenSpec.ofChange indexHoldsSpec)

/-- ITS FALSE NEIGHBOUR: 'it returns false'. Refute it at one input. -/
def indexHoldsWrong : ChangeSpec := { name := "indexHolds", fn := fun _ => fun
  | [d1, d2] => { results := [.lit (.bool false)], args := [d1, d2] }
  | _ => none }
def IndexHoldsWrongFalsely : Prop := indexHoldsRow.holds Try.pinned (OpenSpec.ofChange indexHoldsWrong)

/- THE SECOND FORM. 'bulk': how many values and letters a reading holds, each counted each time it is reached (what is shared counts as often as it is met; a slice's spare places count too). A statement '..UptoSaid' is the law's where the arguments, and the package variables that the reading takes, are together of bulk at most 1048576: NARROWER than '..Said'. Prove '..Said' where nothing that the law and all that it calls make is longer than what came in: it says more and counts as full. Else prove '..UptoSaid'. A law counts once. -/
mutual
def uptoBulk {H : Type} : DataW H → Nat
  | .lit (.string bytes) => bytes.length + 1
  | .lit _ => 1
  | .nil => 1
  | .ptr d => uptoBulk d + 1
  | .slice elems spare => uptoBulkAll elems + uptoBulkAll spare + 1
  | .agg parts => uptoBulkAll parts + 1
  | .iface _ d => uptoBulk d + 1
  | .map entries => uptoBulkEntries entries + 1
  | .held _ => 1
def uptoBulkAll {H : Type} : List (DataW H) → Nat
  | [] => 0
  | d :: r => uptoBulk d + uptoBulkAll r
def uptoBulkEntries {H : Type} : List (Lit × DataW H) → Nat
  | [] => 0
  | x :: r => uptoBulkEntry x + uptoBulkEntries r
def uptoBulkEntry {H : Type} : Lit × DataW H → Nat
  | (.string bytes, d) => bytes.length + uptoBulk d + 1
  | (_, d) => uptoBulk d + 1
 end
def uptoSmall : (H : Type) → List (DataW H) → Bool := fun _ ds => decide (uptoBulkAll ds ≤ 1048576)
def OpenSpec.upto (s : _root_.Go.ChangeSpec) : _root_.Go.OpenSpec := { _root_.Go.OpenSpec.ofChange s with cond := some uptoSmall }

/-- 'redpencillaw12.IndexTexts', WHERE WHAT IT READS IS OF BULK AT MOST 1048576: true; the input reads as it did. -/
def indexTextsUptoRow : OpenClaim := { program := "yteojbekkbgcmnab", sum := "ca5051ec90722f699039a5c1cf4b9cf2127accf059f13fa21f18ce1e9553fdb6", func := "redpencil/redpencillaw12.IndexTexts", spec := "indexTexts", unfollowed := true, recurses := true, plainKeys := false, apart := false, narrowed := true }
def IndexTextsUptoSaid : Prop := indexTextsUptoRow.holds Try.pinned (OpenSpec.upto indexTextsSpec)

/-- 'redpencillaw12.IndexFinds', WHERE WHAT IT READS IS OF BULK AT MOST 1048576: true; the input reads as it did. -/
def indexFindsUptoRow : OpenClaim := { program := "yteojbekkbgcmnab", sum := "ca5051ec90722f699039a5c1cf4b9cf2127accf059f13fa21f18ce1e9553fdb6", func := "redpencil/redpencillaw12.IndexFinds", spec := "indexFinds", unfollowed := true, recurses := true, plainKeys := false, apart := false, narrowed := true }
def IndexFindsUptoSaid : Prop := indexFindsUptoRow.holds Try.pinned (OpenSpec.upto indexFindsSpec)

/-- 'redpencillaw12.IndexParts', WHERE WHAT IT READS IS OF BULK AT MOST 1048576: true; the input reads as it did. -/
def indexPartsUptoRow : OpenClaim := { program := "yteojbekkbgcmnab", sum := "ca5051ec90722f699039a5c1cf4b9cf2127accf059f13fa21f18ce1e9553fdb6", func := "redpencil/redpencillaw12.IndexParts", spec := "indexParts", unfollowed := true, recurses := true, plainKeys := false, apart := false, narrowed := true }
def IndexPartsUptoSaid : Prop := indexPartsUptoRow.holds Try.pinned (OpenSpec.upto indexPartsSpec)

/-- 'redpencillaw12.IndexDies', WHERE WHAT IT READS IS OF BULK AT MOST 1048576: true; the input reads as it did. -/
def indexDiesUptoRow : OpenClaim := { program := "yteojbekkbgcmnab", sum := "ca5051ec90722f699039a5c1cf4b9cf2127accf059f13fa21f18ce1e9553fdb6", func := "redpencil/redpencillaw12.IndexDies", spec := "indexDies", unfollowed := true, recurses := true, plainKeys := false, apart := false, narrowed := true }
def IndexDiesUptoSaid : Prop := indexDiesUptoRow.holds Try.pinned (OpenSpec.upto indexDiesSpec)

/-- 'redpencillaw12.IndexHolds', WHERE WHAT IT READS IS OF BULK AT MOST 1048576: true; the input reads as it did. -/
def indexHoldsUptoRow : OpenClaim := { program := "yteojbekkbgcmnab", sum := "ca5051ec90722f699039a5c1cf4b9cf2127accf059f13fa21f18ce1e9553fdb6", func := "redpencil/redpencillaw12.IndexHolds", spec := "indexHolds", unfollowed := true, recurses := true, plainKeys := false, apart := false, narrowed := true }
def IndexHoldsUptoSaid : Prop := indexHoldsUptoRow.holds Try.pinned (OpenSpec.upto indexHoldsSpec)

end Rows
end Go.Proofs.Yteojbekkbgcmnab
