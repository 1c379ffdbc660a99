/-
  DERIVED. GIVEN WITH THE SEED: THE CARDS: each row of YtokmllopbfmadaaGreatDoorRows.lean that lists a variable, with what it lists TIED to the program's text (the seventh form; the later family's looks); each row that meets fmt, with fmt's text TOLD by the authors' own Lean function (tested against real Go, not proved from fmt's source: count such statements apart). THE CARD IS WHAT COUNTS. Prove the row's statement (the work); the ties are given (YtokmllopbfmadaaGreatDoorTie.lean); close each card by the builder's one call (the guide's Derived/Test/ToyasCard.lean, 'card_holds'). Laid BY PROGRAM, IN A SANDBOX (cutbox-door.mjs). By AI agents, Wed Nov 11 2026. No macro, syntax, notation, axiom, sorry.
-/
import Derived.Test.YtokmllopbfmadaaGreatDoorRows
import GoSem.ClaimSeven
namespace Go.Proofs.YtokmllopbfmadaaGreatDoor
namespace Rows

/-- THE TIED CARD OF 'wattlelaw.Heals'. -/
def healsCard : Claim7 := { stood := { row := healsRow, standIns := [], harness := (true, "61075bdb4953fb6cb97dc9d6bd6313779d8404dcaffc9ecad02d2aa1ff558f59"), looks := false }, kinds := [], alts := [], laidByText := true, laidKinds := [.data], laidTests := true, laidLooks := .later }
def HealsCardSaid : Prop := Claim7.holds Tryz.pinned (.plain (OpenSpec.ofChange healsSpec)) healsCard

/-- THE SECOND FORM's CARD OF 'wattlelaw.Heals'. -/
def healsUptoCard : Claim7 := { stood := { row := healsUptoRow, standIns := [], harness := (true, "61075bdb4953fb6cb97dc9d6bd6313779d8404dcaffc9ecad02d2aa1ff558f59"), looks := false }, kinds := [], alts := [], laidByText := true, laidKinds := [.data], laidTests := true, laidLooks := .later }
def HealsUptoCardSaid : Prop := Claim7.holds Tryz.pinned (.plain (OpenSpec.upto healsSpec)) healsUptoCard
end Rows
end Go.Proofs.YtokmllopbfmadaaGreatDoor
