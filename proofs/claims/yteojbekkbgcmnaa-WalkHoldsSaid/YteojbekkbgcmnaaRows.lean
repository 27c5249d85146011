/-
  No cell of these rows narrows 'for every input' (looked for: loops, veiled, ifaces, maps, wideKeys, modest, calm, conditions, laid).
  DERIVED. THE GIVEN ROWS OF THIS SEAT. 4 by the template 'for every input the law returns true; each argument reads behind the call as it read before'; 0 by the template 'total and deterministic' (their statements: YteojbekkbgcmnaaTotals.lean).
  GIVEN WITH THE SEED: the statements are not yours to turn. If you find one false, say at which input.
  Laid BY PROGRAM, IN A SANDBOX (cutbox-rows.mjs): the forced cells as the released guide's own fill.sh prints them over the translation 68304a16e714869e… (all of the seat's roots in one cut). By AI agents, Wed Nov 11 2026. No macro, syntax, notation, axiom, sorry.
-/
import Derived.Test.YteojbekkbgcmnaaChecked
import GoSem.Claim
import GoSem.ClaimJoined
import GoSem.ClaimMapViews
import Derived.JoinedTies
import Derived.KernelRfl
namespace Go.Proofs.Yteojbekkbgcmnaa
/- THE CELL 'sum', in the pinned program and in every row, IS THE sha256 OF THE DUMP (.gsa) THAT YteojbekkbgcmnaaProg.lean LOADS. Nothing in Lean hashes anything: it is a label: what it is worth is what the hold of that sum in a sandbox is worth. -/
noncomputable def Try.pinned : Pinned := { name := "yteojbekkbgcmnaa", sum := "68304a16e714869ef98ab34e55de8411121fe0c39239c40649715a22814b9855", checked := Try.checked }
namespace Rows
def none {H : Type} : Left H := { results := [], args := [] }

/-- 'redpencillaw11.WalkChildren': WHATEVER THE INPUT: true; the input reads as it did. -/
def walkChildrenSpec : ChangeSpec := { name := "walkChildren", fn := fun _ => fun
  | [d1, d2] => { results := [.lit (.bool true)], args := [d1, d2] }
  | _ => none }
def walkChildrenRow : OpenClaim := { program := "yteojbekkbgcmnaa", sum := "68304a16e714869ef98ab34e55de8411121fe0c39239c40649715a22814b9855", func := "redpencil/redpencillaw11.WalkChildren", spec := "walkChildren", unfollowed := true, recurses := true, plainKeys := false, apart := false }
def WalkChildrenSaid : Prop := walkChildrenRow.holds Try.pinned (OpenSpec.ofChange walkChildrenSpec)

/-- ITS FALSE NEIGHBOUR: 'it returns false'. Refute it at one input. -/
def walkChildrenWrong : ChangeSpec := { name := "walkChildren", fn := fun _ => fun
  | [d1, d2] => { results := [.lit (.bool false)], args := [d1, d2] }
  | _ => none }
def WalkChildrenWrongFalsely : Prop := walkChildrenRow.holds Try.pinned (OpenSpec.ofChange walkChildrenWrong)

/-- 'redpencillaw11.WalkOrders': WHATEVER THE INPUT: true; the input reads as it did. -/
def walkOrdersSpec : ChangeSpec := { name := "walkOrders", fn := fun _ => fun
  | [d1, d2] => { results := [.lit (.bool true)], args := [d1, d2] }
  | _ => none }
def walkOrdersRow : OpenClaim := { program := "yteojbekkbgcmnaa", sum := "68304a16e714869ef98ab34e55de8411121fe0c39239c40649715a22814b9855", func := "redpencil/redpencillaw11.WalkOrders", spec := "walkOrders", unfollowed := true, recurses := true, plainKeys := false, apart := false }
def WalkOrdersSaid : Prop := walkOrdersRow.holds Try.pinned (OpenSpec.ofChange walkOrdersSpec)

/-- ITS FALSE NEIGHBOUR: 'it returns false'. Refute it at one input. -/
def walkOrdersWrong : ChangeSpec := { name := "walkOrders", fn := fun _ => fun
  | [d1, d2] => { results := [.lit (.bool false)], args := [d1, d2] }
  | _ => none }
def WalkOrdersWrongFalsely : Prop := walkOrdersRow.holds Try.pinned (OpenSpec.ofChange walkOrdersWrong)

/-- 'redpencillaw11.WalkLongs': WHATEVER THE INPUT: true; the input reads as it did. -/
def walkLongsSpec : ChangeSpec := { name := "walkLongs", fn := fun _ => fun
  | [d1, d2] => { results := [.lit (.bool true)], args := [d1, d2] }
  | _ => none }
def walkLongsRow : OpenClaim := { program := "yteojbekkbgcmnaa", sum := "68304a16e714869ef98ab34e55de8411121fe0c39239c40649715a22814b9855", func := "redpencil/redpencillaw11.WalkLongs", spec := "walkLongs", unfollowed := true, recurses := true, plainKeys := false, apart := false }
def WalkLongsSaid : Prop := walkLongsRow.holds Try.pinned (OpenSpec.ofChange walkLongsSpec)

/-- ITS FALSE NEIGHBOUR: 'it returns false'. Refute it at one input. -/
def walkLongsWrong : ChangeSpec := { name := "walkLongs", fn := fun _ => fun
  | [d1, d2] => { results := [.lit (.bool false)], args := [d1, d2] }
  | _ => none }
def WalkLongsWrongFalsely : Prop := walkLongsRow.holds Try.pinned (OpenSpec.ofChange walkLongsWrong)

/-- 'redpencillaw11.WalkHolds': WHATEVER THE INPUT: true; the input reads as it did. -/
def walkHoldsSpec : ChangeSpec := { name := "walkHolds", fn := fun _ => fun
  | [d] => { results := [.lit (.bool true)], args := [d] }
  | _ => none }
def walkHoldsRow : OpenClaim := { program := "yteojbekkbgcmnaa", sum := "68304a16e714869ef98ab34e55de8411121fe0c39239c40649715a22814b9855", func := "redpencil/redpencillaw11.WalkHolds", spec := "walkHolds", unfollowed := true, recurses := true, plainKeys := false, apart := false }
def WalkHoldsSaid : Prop := walkHoldsRow.holds Try.pinned (OpenSpec.ofChange walkHoldsSpec)

/-- ITS FALSE NEIGHBOUR: 'it returns false'. Refute it at one input. -/
def walkHoldsWrong : ChangeSpec := { name := "walkHolds", fn := fun _ => fun
  | [d] => { results := [.lit (.bool false)], args := [d] }
  | _ => none }
def WalkHoldsWrongFalsely : Prop := walkHoldsRow.holds Try.pinned (OpenSpec.ofChange walkHoldsWrong)

/- THE SECOND FORM. 'bulk': how many values and letters a reading holds, each counted each time it is reached (what is shared counts as often as it is met; a slice's spare places count too). A statement '..UptoSaid' is the law's where the arguments, and the package variables that the reading takes, are together of bulk at most 1048576: NARROWER than '..Said'. Prove '..Said' where nothing that the law and all that it calls make is longer than what came in: it says more and counts as full. Else prove '..UptoSaid'. A law counts once. -/
mutual
def uptoBulk {H : Type} : DataW H → Nat
  | .lit (.string bytes) => bytes.length + 1
  | .lit _ => 1
  | .nil => 1
  | .ptr d => uptoBulk d + 1
  | .slice elems spare => uptoBulkAll elems + uptoBulkAll spare + 1
  | .agg parts => uptoBulkAll parts + 1
  | .iface _ d => uptoBulk d + 1
  | .map entries => uptoBulkEntries entries + 1
  | .held _ => 1
def uptoBulkAll {H : Type} : List (DataW H) → Nat
  | [] => 0
  | d :: r => uptoBulk d + uptoBulkAll r
def uptoBulkEntries {H : Type} : List (Lit × DataW H) → Nat
  | [] => 0
  | x :: r => uptoBulkEntry x + uptoBulkEntries r
def uptoBulkEntry {H : Type} : Lit × DataW H → Nat
  | (.string bytes, d) => bytes.length + uptoBulk d + 1
  | (_, d) => uptoBulk d + 1
 end
def uptoSmall : (H : Type) → List (DataW H) → Bool := fun _ ds => decide (uptoBulkAll ds ≤ 1048576)
def OpenSpec.upto (s : _root_.Go.ChangeSpec) : _root_.Go.OpenSpec := { _root_.Go.OpenSpec.ofChange s with cond := some uptoSmall }

/-- 'redpencillaw11.WalkChildren', WHERE WHAT IT READS IS OF BULK AT MOST 1048576: true; the input reads as it did. -/
def walkChildrenUptoRow : OpenClaim := { program := "yteojbekkbgcmnaa", sum := "68304a16e714869ef98ab34e55de8411121fe0c39239c40649715a22814b9855", func := "redpencil/redpencillaw11.WalkChildren", spec := "walkChildren", unfollowed := true, recurses := true, plainKeys := false, apart := false, narrowed := true }
def WalkChildrenUptoSaid : Prop := walkChildrenUptoRow.holds Try.pinned (OpenSpec.upto walkChildrenSpec)

/-- 'redpencillaw11.WalkOrders', WHERE WHAT IT READS IS OF BULK AT MOST 1048576: true; the input reads as it did. -/
def walkOrdersUptoRow : OpenClaim := { program := "yteojbekkbgcmnaa", sum := "68304a16e714869ef98ab34e55de8411121fe0c39239c40649715a22814b9855", func := "redpencil/redpencillaw11.WalkOrders", spec := "walkOrders", unfollowed := true, recurses := true, plainKeys := false, apart := false, narrowed := true }
def WalkOrdersUptoSaid : Prop := walkOrdersUptoRow.holds Try.pinned (OpenSpec.upto walkOrdersSpec)

/-- 'redpencillaw11.WalkLongs', WHERE WHAT IT READS IS OF BULK AT MOST 1048576: true; the input reads as it did. -/
def walkLongsUptoRow : OpenClaim := { program := "yteojbekkbgcmnaa", sum := "68304a16e714869ef98ab34e55de8411121fe0c39239c40649715a22814b9855", func := "redpencil/redpencillaw11.WalkLongs", spec := "walkLongs", unfollowed := true, recurses := true, plainKeys := false, apart := false, narrowed := true }
def WalkLongsUptoSaid : Prop := walkLongsUptoRow.holds Try.pinned (OpenSpec.upto walkLongsSpec)

/-- 'redpencillaw11.WalkHolds', WHERE WHAT IT READS IS OF BULK AT MOST 1048576: true; the input reads as it did. -/
def walkHoldsUptoRow : OpenClaim := { program := "yteojbekkbgcmnaa", sum := "68304a16e714869ef98ab34e55de8411121fe0c39239c40649715a22814b9855", func := "redpencil/redpencillaw11.WalkHolds", spec := "walkHolds", unfollowed := true, recurses := true, plainKeys := false, apart := false, narrowed := true }
def WalkHoldsUptoSaid : Prop := walkHoldsUptoRow.holds Try.pinned (OpenSpec.upto walkHoldsSpec)

end Rows
end Go.Proofs.Yteojbekkbgcmnaa
