/-
  DERIVED. GIVEN WITH THE SEED: THE CARDS: each row of YtodjccfaipkpfaaDoorRows.lean that lists a variable, with what it lists TIED to the program's text (the seventh form; the later family's looks); each row that meets fmt, with fmt's text TOLD by the authors' own Lean function (tested against real Go, not proved from fmt's source: count such statements apart). THE CARD IS WHAT COUNTS. Prove the row's statement (the work); the ties are given (YtodjccfaipkpfaaDoorTie.lean); close each card by the builder's one call (the guide's Derived/Test/ToyasCard.lean, 'card_holds'). Laid BY PROGRAM, IN A SANDBOX (cutbox-door.mjs). By AI agents, Wed Nov 11 2026. No macro, syntax, notation, axiom, sorry.
-/
import Derived.Test.YtodjccfaipkpfaaDoorRows
import GoSem.ClaimSeven
namespace Go.Proofs.YtodjccfaipkpfaaDoor
namespace Rows

/-- THE TIED CARD OF 'redpencillaw13.FormFaults'. -/
def formFaultsCard : Claim7 := { stood := { row := formFaultsRow, standIns := [], harness := (true, "754d7edd41fa65f9b49de4152f992bfc45c18366d1323734f19271348df1b770"), looks := false }, kinds := [], alts := [], laidByText := true, laidKinds := [.data], laidTests := true, laidLooks := .later }
def FormFaultsCardSaid : Prop := Claim7.holds Tryd.pinned (.plain (OpenSpec.ofChange formFaultsSpec)) formFaultsCard

/-- THE TIED CARD OF 'redpencillaw13.FormWholes'. -/
def formWholesCard : Claim7 := { stood := { row := formWholesRow, standIns := [], harness := (true, "754d7edd41fa65f9b49de4152f992bfc45c18366d1323734f19271348df1b770"), looks := false }, kinds := [], alts := [], laidByText := true, laidKinds := [.data], laidTests := true, laidLooks := .later }
def FormWholesCardSaid : Prop := Claim7.holds Tryd.pinned (.plain (OpenSpec.ofChange formWholesSpec)) formWholesCard

/-- THE TIED CARD OF 'redpencillaw13.FormWords'. -/
def formWordsCard : Claim7 := { stood := { row := formWordsRow, standIns := [], harness := (true, "754d7edd41fa65f9b49de4152f992bfc45c18366d1323734f19271348df1b770"), looks := false }, kinds := [], alts := [], laidByText := true, laidKinds := [.data], laidTests := true, laidLooks := .later }
def FormWordsCardSaid : Prop := Claim7.holds Tryd.pinned (.plain (OpenSpec.ofChange formWordsSpec)) formWordsCard

/-- THE TIED CARD OF 'redpencillaw13.FormChains'. -/
def formChainsCard : Claim7 := { stood := { row := formChainsRow, standIns := [], harness := (true, "754d7edd41fa65f9b49de4152f992bfc45c18366d1323734f19271348df1b770"), looks := false }, kinds := [], alts := [], laidByText := true, laidKinds := [.data], laidTests := true, laidLooks := .later }
def FormChainsCardSaid : Prop := Claim7.holds Tryd.pinned (.plain (OpenSpec.ofChange formChainsSpec)) formChainsCard

/-- THE SECOND FORM's CARD OF 'redpencillaw13.FormFaults'. -/
def formFaultsUptoCard : Claim7 := { stood := { row := formFaultsUptoRow, standIns := [], harness := (true, "754d7edd41fa65f9b49de4152f992bfc45c18366d1323734f19271348df1b770"), looks := false }, kinds := [], alts := [], laidByText := true, laidKinds := [.data], laidTests := true, laidLooks := .later }
def FormFaultsUptoCardSaid : Prop := Claim7.holds Tryd.pinned (.plain (OpenSpec.upto formFaultsSpec)) formFaultsUptoCard

/-- THE SECOND FORM's CARD OF 'redpencillaw13.FormWholes'. -/
def formWholesUptoCard : Claim7 := { stood := { row := formWholesUptoRow, standIns := [], harness := (true, "754d7edd41fa65f9b49de4152f992bfc45c18366d1323734f19271348df1b770"), looks := false }, kinds := [], alts := [], laidByText := true, laidKinds := [.data], laidTests := true, laidLooks := .later }
def FormWholesUptoCardSaid : Prop := Claim7.holds Tryd.pinned (.plain (OpenSpec.upto formWholesSpec)) formWholesUptoCard

/-- THE SECOND FORM's CARD OF 'redpencillaw13.FormWords'. -/
def formWordsUptoCard : Claim7 := { stood := { row := formWordsUptoRow, standIns := [], harness := (true, "754d7edd41fa65f9b49de4152f992bfc45c18366d1323734f19271348df1b770"), looks := false }, kinds := [], alts := [], laidByText := true, laidKinds := [.data], laidTests := true, laidLooks := .later }
def FormWordsUptoCardSaid : Prop := Claim7.holds Tryd.pinned (.plain (OpenSpec.upto formWordsSpec)) formWordsUptoCard

/-- THE SECOND FORM's CARD OF 'redpencillaw13.FormChains'. -/
def formChainsUptoCard : Claim7 := { stood := { row := formChainsUptoRow, standIns := [], harness := (true, "754d7edd41fa65f9b49de4152f992bfc45c18366d1323734f19271348df1b770"), looks := false }, kinds := [], alts := [], laidByText := true, laidKinds := [.data], laidTests := true, laidLooks := .later }
def FormChainsUptoCardSaid : Prop := Claim7.holds Tryd.pinned (.plain (OpenSpec.upto formChainsSpec)) formChainsUptoCard
end Rows
end Go.Proofs.YtodjccfaipkpfaaDoor
