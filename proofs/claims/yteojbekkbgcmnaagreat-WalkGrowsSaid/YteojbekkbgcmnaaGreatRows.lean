/-
  No cell of these rows narrows 'for every input' (looked for: loops, veiled, ifaces, maps, wideKeys, modest, calm, conditions, laid).
  DERIVED. THE GIVEN ROWS OF THIS SEAT. 2 by the template 'for every input the law returns true; each argument reads behind the call as it read before'; 0 by the template 'total and deterministic' (their statements: YteojbekkbgcmnaaGreatTotals.lean).
  GIVEN WITH THE SEED: the statements are not yours to turn. If you find one false, say at which input.
  Laid BY PROGRAM, IN A SANDBOX (cutbox-rows.mjs): the forced cells as the released guide's own fill.sh prints them over the translation 7d2784cb42691de7… (all of the seat's roots in one cut). By AI agents, Wed Nov 11 2026. No macro, syntax, notation, axiom, sorry.
-/
import Derived.Test.YteojbekkbgcmnaaGreatChecked
import GoSem.Claim
import GoSem.ClaimJoined
import GoSem.ClaimMapViews
import Derived.JoinedTies
import Derived.KernelRfl
namespace Go.Proofs.YteojbekkbgcmnaaGreat
/- THE CELL 'sum', in the pinned program and in every row, IS THE sha256 OF THE DUMP (.gsa) THAT YteojbekkbgcmnaaGreatProg.lean LOADS. Nothing in Lean hashes anything: it is a label: what it is worth is what the hold of that sum in a sandbox is worth. -/
noncomputable def Tryz.pinned : Pinned := { name := "yteojbekkbgcmnaagreat", sum := "7d2784cb42691de73bf9dce204b8d8d4384d74d4e4ea45d7f1ca71d92469f03f", checked := Tryz.checked }
namespace Rows
def none {H : Type} : Left H := { results := [], args := [] }

/-- 'redpencillaw11.WalkPaths': WHATEVER THE INPUT: true; the input reads as it did. -/
def walkPathsSpec : ChangeSpec := { name := "walkPaths", fn := fun _ => fun
  | [d1, d2] => { results := [.lit (.bool true)], args := [d1, d2] }
  | _ => none }
def walkPathsRow : OpenClaim := { program := "yteojbekkbgcmnaagreat", sum := "7d2784cb42691de73bf9dce204b8d8d4384d74d4e4ea45d7f1ca71d92469f03f", func := "redpencil/redpencillaw11.WalkPaths", spec := "walkPaths", unfollowed := true, recurses := true, plainKeys := false, apart := false }
def WalkPathsSaid : Prop := walkPathsRow.holds Tryz.pinned (OpenSpec.ofChange walkPathsSpec)

/-- ITS FALSE NEIGHBOUR: 'it returns false'. Refute it at one input. -/
def walkPathsWrong : ChangeSpec := { name := "walkPaths", fn := fun _ => fun
  | [d1, d2] => { results := [.lit (.bool false)], args := [d1, d2] }
  | _ => none }
def WalkPathsWrongFalsely : Prop := walkPathsRow.holds Tryz.pinned (OpenSpec.ofChange walkPathsWrong)

/-- 'redpencillaw11.WalkGrows': WHATEVER THE INPUT: true; the input reads as it did. -/
def walkGrowsSpec : ChangeSpec := { name := "walkGrows", fn := fun _ => fun
  | [d1, d2, d3] => { results := [.lit (.bool true)], args := [d1, d2, d3] }
  | _ => none }
def walkGrowsRow : OpenClaim := { program := "yteojbekkbgcmnaagreat", sum := "7d2784cb42691de73bf9dce204b8d8d4384d74d4e4ea45d7f1ca71d92469f03f", func := "redpencil/redpencillaw11.WalkGrows", spec := "walkGrows", unfollowed := true, recurses := true, plainKeys := false, apart := false }
def WalkGrowsSaid : Prop := walkGrowsRow.holds Tryz.pinned (OpenSpec.ofChange walkGrowsSpec)

/-- ITS FALSE NEIGHBOUR: 'it returns false'. Refute it at one input. -/
def walkGrowsWrong : ChangeSpec := { name := "walkGrows", fn := fun _ => fun
  | [d1, d2, d3] => { results := [.lit (.bool false)], args := [d1, d2, d3] }
  | _ => none }
def WalkGrowsWrongFalsely : Prop := walkGrowsRow.holds Tryz.pinned (OpenSpec.ofChange walkGrowsWrong)

/- THE SECOND FORM. 'bulk': how many values and letters a reading holds, each counted each time it is reached (what is shared counts as often as it is met; a slice's spare places count too). A statement '..UptoSaid' is the law's where the arguments, and the package variables that the reading takes, are together of bulk at most 1048576: NARROWER than '..Said'. Prove '..Said' where nothing that the law and all that it calls make is longer than what came in: it says more and counts as full. Else prove '..UptoSaid'. A law counts once. -/
mutual
def uptoBulk {H : Type} : DataW H → Nat
  | .lit (.string bytes) => bytes.length + 1
  | .lit _ => 1
  | .nil => 1
  | .ptr d => uptoBulk d + 1
  | .slice elems spare => uptoBulkAll elems + uptoBulkAll spare + 1
  | .agg parts => uptoBulkAll parts + 1
  | .iface _ d => uptoBulk d + 1
  | .map entries => uptoBulkEntries entries + 1
  | .held _ => 1
def uptoBulkAll {H : Type} : List (DataW H) → Nat
  | [] => 0
  | d :: r => uptoBulk d + uptoBulkAll r
def uptoBulkEntries {H : Type} : List (Lit × DataW H) → Nat
  | [] => 0
  | x :: r => uptoBulkEntry x + uptoBulkEntries r
def uptoBulkEntry {H : Type} : Lit × DataW H → Nat
  | (.string bytes, d) => bytes.length + uptoBulk d + 1
  | (_, d) => uptoBulk d + 1
 end
def uptoSmall : (H : Type) → List (DataW H) → Bool := fun _ ds => decide (uptoBulkAll ds ≤ 1048576)
def OpenSpec.upto (s : _root_.Go.ChangeSpec) : _root_.Go.OpenSpec := { _root_.Go.OpenSpec.ofChange s with cond := some uptoSmall }

/-- 'redpencillaw11.WalkPaths', WHERE WHAT IT READS IS OF BULK AT MOST 1048576: true; the input reads as it did. -/
def walkPathsUptoRow : OpenClaim := { program := "yteojbekkbgcmnaagreat", sum := "7d2784cb42691de73bf9dce204b8d8d4384d74d4e4ea45d7f1ca71d92469f03f", func := "redpencil/redpencillaw11.WalkPaths", spec := "walkPaths", unfollowed := true, recurses := true, plainKeys := false, apart := false, narrowed := true }
def WalkPathsUptoSaid : Prop := walkPathsUptoRow.holds Tryz.pinned (OpenSpec.upto walkPathsSpec)

/-- 'redpencillaw11.WalkGrows', WHERE WHAT IT READS IS OF BULK AT MOST 1048576: true; the input reads as it did. -/
def walkGrowsUptoRow : OpenClaim := { program := "yteojbekkbgcmnaagreat", sum := "7d2784cb42691de73bf9dce204b8d8d4384d74d4e4ea45d7f1ca71d92469f03f", func := "redpencil/redpencillaw11.WalkGrows", spec := "walkGrows", unfollowed := true, recurses := true, plainKeys := false, apart := false, narrowed := true }
def WalkGrowsUptoSaid : Prop := walkGrowsUptoRow.holds Tryz.pinned (OpenSpec.upto walkGrowsSpec)

end Rows
end Go.Proofs.YteojbekkbgcmnaaGreat
