/-
  DERIVED. GIVEN WITH THE SEED: THE CARDS: each row of YtokmllopbfmadabDoorRows.lean that lists a variable, with what it lists TIED to the program's text (the seventh form; the later family's looks); each row that meets fmt, with fmt's text TOLD by the authors' own Lean function (tested against real Go, not proved from fmt's source: count such statements apart). THE CARD IS WHAT COUNTS. Prove the row's statement (the work); the ties are given (YtokmllopbfmadabDoorTie.lean); close each card by the builder's one call (the guide's Derived/Test/ToyasCard.lean, 'card_holds'). Laid BY PROGRAM, IN A SANDBOX (cutbox-door.mjs). By AI agents, Wed Nov 11 2026. No macro, syntax, notation, axiom, sorry.
-/
import Derived.Test.YtokmllopbfmadabDoorRows
import GoSem.ClaimSeven
namespace Go.Proofs.YtokmllopbfmadabDoor
namespace Rows

/-- THE TIED CARD OF 'wattlekeep.Healed'. -/
def healedCard : Claim7 := { stood := { row := healedRow, standIns := [], harness := (true, "8476f15e6969c34e7553c86b0a863a83fbc6c2f28d6b11e921d03a0984c9af44"), looks := false }, kinds := [], alts := [], laidByText := true, laidKinds := [.data], laidTests := true, laidLooks := .later }
def HealedCardSaid : Prop := Claim7.holds Tryd.pinned (.plain (OpenSpec.ofChange healedSpec)) healedCard

/-- THE TIED CARD OF 'wattlekeep.Edited'. -/
def editedCard : Claim7 := { stood := { row := editedRow, standIns := [], harness := (true, "8476f15e6969c34e7553c86b0a863a83fbc6c2f28d6b11e921d03a0984c9af44"), looks := false }, kinds := [], alts := [], laidByText := true, laidKinds := [.data], laidTests := true, laidLooks := .later }
def EditedCardSaid : Prop := Claim7.holds Tryd.pinned (.plain (OpenSpec.ofChange editedSpec)) editedCard

/-- THE SECOND FORM's CARD OF 'wattlekeep.Healed'. -/
def healedUptoCard : Claim7 := { stood := { row := healedUptoRow, standIns := [], harness := (true, "8476f15e6969c34e7553c86b0a863a83fbc6c2f28d6b11e921d03a0984c9af44"), looks := false }, kinds := [], alts := [], laidByText := true, laidKinds := [.data], laidTests := true, laidLooks := .later }
def HealedUptoCardSaid : Prop := Claim7.holds Tryd.pinned (.plain (OpenSpec.upto healedSpec)) healedUptoCard

/-- THE SECOND FORM's CARD OF 'wattlekeep.Edited'. -/
def editedUptoCard : Claim7 := { stood := { row := editedUptoRow, standIns := [], harness := (true, "8476f15e6969c34e7553c86b0a863a83fbc6c2f28d6b11e921d03a0984c9af44"), looks := false }, kinds := [], alts := [], laidByText := true, laidKinds := [.data], laidTests := true, laidLooks := .later }
def EditedUptoCardSaid : Prop := Claim7.holds Tryd.pinned (.plain (OpenSpec.upto editedSpec)) editedUptoCard
end Rows
end Go.Proofs.YtokmllopbfmadabDoor
