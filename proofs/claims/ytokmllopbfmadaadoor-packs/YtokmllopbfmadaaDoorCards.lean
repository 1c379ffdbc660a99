/-
  DERIVED. GIVEN WITH THE SEED: THE CARDS: each row of YtokmllopbfmadaaDoorRows.lean that lists a variable, with what it lists TIED to the program's text (the seventh form; the later family's looks); each row that meets fmt, with fmt's text TOLD by the authors' own Lean function (tested against real Go, not proved from fmt's source: count such statements apart). THE CARD IS WHAT COUNTS. Prove the row's statement (the work); the ties are given (YtokmllopbfmadaaDoorTie.lean); close each card by the builder's one call (the guide's Derived/Test/ToyasCard.lean, 'card_holds'). Laid BY PROGRAM, IN A SANDBOX (cutbox-door.mjs). By AI agents, Wed Nov 11 2026. No macro, syntax, notation, axiom, sorry.
-/
import Derived.Test.YtokmllopbfmadaaDoorRows
import GoSem.ClaimSeven
namespace Go.Proofs.YtokmllopbfmadaaDoor
namespace Rows

/-- THE TIED CARD OF 'wattlelaw.Fields'. -/
def fieldsCard : Claim7 := { stood := { row := fieldsRow, standIns := [], harness := (true, "1d8d00e5e2ca8e040df30a9f83cdbc4bd6ba4e70fa99e8736360954240d85dd1"), looks := false }, kinds := [], alts := [], laidByText := true, laidKinds := [.data], laidTests := true, laidLooks := .later }
def FieldsCardSaid : Prop := Claim7.holds Tryd.pinned (.plain (OpenSpec.ofChange fieldsSpec)) fieldsCard

/-- THE TIED CARD OF 'wattlekeep.Field'. -/
def fieldCard : Claim7 := { stood := { row := fieldRow, standIns := [], harness := (true, "1d8d00e5e2ca8e040df30a9f83cdbc4bd6ba4e70fa99e8736360954240d85dd1"), looks := false }, kinds := [], alts := [], laidByText := true, laidKinds := [.data], laidTests := true, laidLooks := .later }
def FieldCardSaid : Prop := Claim7.holds Tryd.pinned (.plain (OpenSpec.ofChange fieldSpec)) fieldCard

/-- THE TIED CARD OF 'wattlelaw.Spreads'. -/
def spreadsCard : Claim7 := { stood := { row := spreadsRow, standIns := [], harness := (true, "1d8d00e5e2ca8e040df30a9f83cdbc4bd6ba4e70fa99e8736360954240d85dd1"), looks := false }, kinds := [], alts := [], laidByText := true, laidKinds := [.data], laidTests := true, laidLooks := .later }
def SpreadsCardSaid : Prop := Claim7.holds Tryd.pinned (.plain (OpenSpec.ofChange spreadsSpec)) spreadsCard

/-- THE TIED CARD OF 'wattlelaw.Gathers'. -/
def gathersCard : Claim7 := { stood := { row := gathersRow, standIns := [], harness := (true, "1d8d00e5e2ca8e040df30a9f83cdbc4bd6ba4e70fa99e8736360954240d85dd1"), looks := false }, kinds := [], alts := [], laidByText := true, laidKinds := [.data], laidTests := true, laidLooks := .later }
def GathersCardSaid : Prop := Claim7.holds Tryd.pinned (.plain (OpenSpec.ofChange gathersSpec)) gathersCard

/-- THE TIED CARD OF 'wattlelaw.Changes'. -/
def changesCard : Claim7 := { stood := { row := changesRow, standIns := [], harness := (true, "1d8d00e5e2ca8e040df30a9f83cdbc4bd6ba4e70fa99e8736360954240d85dd1"), looks := false }, kinds := [], alts := [], laidByText := true, laidKinds := [.data], laidTests := true, laidLooks := .later }
def ChangesCardSaid : Prop := Claim7.holds Tryd.pinned (.plain (OpenSpec.ofChange changesSpec)) changesCard

/-- THE TIED CARD OF 'wattlekeep.Restored'. -/
def restoredCard : Claim7 := { stood := { row := restoredRow, standIns := [], harness := (true, "1d8d00e5e2ca8e040df30a9f83cdbc4bd6ba4e70fa99e8736360954240d85dd1"), looks := false }, kinds := [], alts := [], laidByText := true, laidKinds := [.data], laidTests := true, laidLooks := .later }
def RestoredCardSaid : Prop := Claim7.holds Tryd.pinned (.plain (OpenSpec.ofChange restoredSpec)) restoredCard

/-- THE TIED CARD OF 'wattlekeep.Changed'. -/
def changedCard : Claim7 := { stood := { row := changedRow, standIns := [], harness := (true, "1d8d00e5e2ca8e040df30a9f83cdbc4bd6ba4e70fa99e8736360954240d85dd1"), looks := false }, kinds := [], alts := [], laidByText := true, laidKinds := [.data], laidTests := true, laidLooks := .later }
def ChangedCardSaid : Prop := Claim7.holds Tryd.pinned (.plain (OpenSpec.ofChange changedSpec)) changedCard

/-- THE TIED CARD OF 'wattlelaw.Plans'. -/
def plansCard : Claim7 := { stood := { row := plansRow, standIns := [], harness := (true, "1d8d00e5e2ca8e040df30a9f83cdbc4bd6ba4e70fa99e8736360954240d85dd1"), looks := false }, kinds := [], alts := [], laidByText := true, laidKinds := [.data], laidTests := true, laidLooks := .later }
def PlansCardSaid : Prop := Claim7.holds Tryd.pinned (.plain (OpenSpec.ofChange plansSpec)) plansCard

/-- THE TIED CARD OF 'wattlekeep.Planned'. -/
def plannedCard : Claim7 := { stood := { row := plannedRow, standIns := [], harness := (true, "1d8d00e5e2ca8e040df30a9f83cdbc4bd6ba4e70fa99e8736360954240d85dd1"), looks := false }, kinds := [], alts := [], laidByText := true, laidKinds := [.data], laidTests := true, laidLooks := .later }
def PlannedCardSaid : Prop := Claim7.holds Tryd.pinned (.plain (OpenSpec.ofChange plannedSpec)) plannedCard

/-- THE TIED CARD OF 'wattlekeep.Ways'. -/
def waysCard : Claim7 := { stood := { row := waysRow, standIns := [], harness := (true, "1d8d00e5e2ca8e040df30a9f83cdbc4bd6ba4e70fa99e8736360954240d85dd1"), looks := false }, kinds := [], alts := [], laidByText := true, laidKinds := [.data], laidTests := true, laidLooks := .later }
def WaysCardSaid : Prop := Claim7.holds Tryd.pinned (.plain (OpenSpec.ofChange waysSpec)) waysCard

/-- THE TIED CARD OF 'wattlelaw.Packs'. -/
def packsCard : Claim7 := { stood := { row := packsRow, standIns := [], harness := (true, "1d8d00e5e2ca8e040df30a9f83cdbc4bd6ba4e70fa99e8736360954240d85dd1"), looks := false }, kinds := [], alts := [], laidByText := true, laidKinds := [.data], laidTests := true, laidLooks := .later }
def PacksCardSaid : Prop := Claim7.holds Tryd.pinned (.plain (OpenSpec.ofChange packsSpec)) packsCard

/-- THE SECOND FORM's CARD OF 'wattlelaw.Fields'. -/
def fieldsUptoCard : Claim7 := { stood := { row := fieldsUptoRow, standIns := [], harness := (true, "1d8d00e5e2ca8e040df30a9f83cdbc4bd6ba4e70fa99e8736360954240d85dd1"), looks := false }, kinds := [], alts := [], laidByText := true, laidKinds := [.data], laidTests := true, laidLooks := .later }
def FieldsUptoCardSaid : Prop := Claim7.holds Tryd.pinned (.plain (OpenSpec.upto fieldsSpec)) fieldsUptoCard

/-- THE SECOND FORM's CARD OF 'wattlekeep.Field'. -/
def fieldUptoCard : Claim7 := { stood := { row := fieldUptoRow, standIns := [], harness := (true, "1d8d00e5e2ca8e040df30a9f83cdbc4bd6ba4e70fa99e8736360954240d85dd1"), looks := false }, kinds := [], alts := [], laidByText := true, laidKinds := [.data], laidTests := true, laidLooks := .later }
def FieldUptoCardSaid : Prop := Claim7.holds Tryd.pinned (.plain (OpenSpec.upto fieldSpec)) fieldUptoCard

/-- THE SECOND FORM's CARD OF 'wattlelaw.Spreads'. -/
def spreadsUptoCard : Claim7 := { stood := { row := spreadsUptoRow, standIns := [], harness := (true, "1d8d00e5e2ca8e040df30a9f83cdbc4bd6ba4e70fa99e8736360954240d85dd1"), looks := false }, kinds := [], alts := [], laidByText := true, laidKinds := [.data], laidTests := true, laidLooks := .later }
def SpreadsUptoCardSaid : Prop := Claim7.holds Tryd.pinned (.plain (OpenSpec.upto spreadsSpec)) spreadsUptoCard

/-- THE SECOND FORM's CARD OF 'wattlelaw.Gathers'. -/
def gathersUptoCard : Claim7 := { stood := { row := gathersUptoRow, standIns := [], harness := (true, "1d8d00e5e2ca8e040df30a9f83cdbc4bd6ba4e70fa99e8736360954240d85dd1"), looks := false }, kinds := [], alts := [], laidByText := true, laidKinds := [.data], laidTests := true, laidLooks := .later }
def GathersUptoCardSaid : Prop := Claim7.holds Tryd.pinned (.plain (OpenSpec.upto gathersSpec)) gathersUptoCard

/-- THE SECOND FORM's CARD OF 'wattlelaw.Changes'. -/
def changesUptoCard : Claim7 := { stood := { row := changesUptoRow, standIns := [], harness := (true, "1d8d00e5e2ca8e040df30a9f83cdbc4bd6ba4e70fa99e8736360954240d85dd1"), looks := false }, kinds := [], alts := [], laidByText := true, laidKinds := [.data], laidTests := true, laidLooks := .later }
def ChangesUptoCardSaid : Prop := Claim7.holds Tryd.pinned (.plain (OpenSpec.upto changesSpec)) changesUptoCard

/-- THE SECOND FORM's CARD OF 'wattlekeep.Restored'. -/
def restoredUptoCard : Claim7 := { stood := { row := restoredUptoRow, standIns := [], harness := (true, "1d8d00e5e2ca8e040df30a9f83cdbc4bd6ba4e70fa99e8736360954240d85dd1"), looks := false }, kinds := [], alts := [], laidByText := true, laidKinds := [.data], laidTests := true, laidLooks := .later }
def RestoredUptoCardSaid : Prop := Claim7.holds Tryd.pinned (.plain (OpenSpec.upto restoredSpec)) restoredUptoCard

/-- THE SECOND FORM's CARD OF 'wattlekeep.Changed'. -/
def changedUptoCard : Claim7 := { stood := { row := changedUptoRow, standIns := [], harness := (true, "1d8d00e5e2ca8e040df30a9f83cdbc4bd6ba4e70fa99e8736360954240d85dd1"), looks := false }, kinds := [], alts := [], laidByText := true, laidKinds := [.data], laidTests := true, laidLooks := .later }
def ChangedUptoCardSaid : Prop := Claim7.holds Tryd.pinned (.plain (OpenSpec.upto changedSpec)) changedUptoCard

/-- THE SECOND FORM's CARD OF 'wattlelaw.Plans'. -/
def plansUptoCard : Claim7 := { stood := { row := plansUptoRow, standIns := [], harness := (true, "1d8d00e5e2ca8e040df30a9f83cdbc4bd6ba4e70fa99e8736360954240d85dd1"), looks := false }, kinds := [], alts := [], laidByText := true, laidKinds := [.data], laidTests := true, laidLooks := .later }
def PlansUptoCardSaid : Prop := Claim7.holds Tryd.pinned (.plain (OpenSpec.upto plansSpec)) plansUptoCard

/-- THE SECOND FORM's CARD OF 'wattlekeep.Planned'. -/
def plannedUptoCard : Claim7 := { stood := { row := plannedUptoRow, standIns := [], harness := (true, "1d8d00e5e2ca8e040df30a9f83cdbc4bd6ba4e70fa99e8736360954240d85dd1"), looks := false }, kinds := [], alts := [], laidByText := true, laidKinds := [.data], laidTests := true, laidLooks := .later }
def PlannedUptoCardSaid : Prop := Claim7.holds Tryd.pinned (.plain (OpenSpec.upto plannedSpec)) plannedUptoCard

/-- THE SECOND FORM's CARD OF 'wattlekeep.Ways'. -/
def waysUptoCard : Claim7 := { stood := { row := waysUptoRow, standIns := [], harness := (true, "1d8d00e5e2ca8e040df30a9f83cdbc4bd6ba4e70fa99e8736360954240d85dd1"), looks := false }, kinds := [], alts := [], laidByText := true, laidKinds := [.data], laidTests := true, laidLooks := .later }
def WaysUptoCardSaid : Prop := Claim7.holds Tryd.pinned (.plain (OpenSpec.upto waysSpec)) waysUptoCard

/-- THE SECOND FORM's CARD OF 'wattlelaw.Packs'. -/
def packsUptoCard : Claim7 := { stood := { row := packsUptoRow, standIns := [], harness := (true, "1d8d00e5e2ca8e040df30a9f83cdbc4bd6ba4e70fa99e8736360954240d85dd1"), looks := false }, kinds := [], alts := [], laidByText := true, laidKinds := [.data], laidTests := true, laidLooks := .later }
def PacksUptoCardSaid : Prop := Claim7.holds Tryd.pinned (.plain (OpenSpec.upto packsSpec)) packsUptoCard
end Rows
end Go.Proofs.YtokmllopbfmadaaDoor
