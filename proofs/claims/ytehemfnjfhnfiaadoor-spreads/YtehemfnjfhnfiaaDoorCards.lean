/-
  DERIVED. GIVEN WITH THE SEED: THE CARDS: each row of YtehemfnjfhnfiaaDoorRows.lean that lists a variable, with what it lists TIED to the program's text (the seventh form; the later family's looks); each row that meets fmt, with fmt's text TOLD by the authors' own Lean function (tested against real Go, not proved from fmt's source: count such statements apart). THE CARD IS WHAT COUNTS. Prove the row's statement (the work); the ties are given (YtehemfnjfhnfiaaDoorTie.lean); close each card by the builder's one call (the guide's Derived/Test/ToyasCard.lean, 'card_holds'). Laid BY PROGRAM, IN A SANDBOX (cutbox-door.mjs). By AI agents, Wed Nov 11 2026. No macro, syntax, notation, axiom, sorry.
-/
import Derived.Test.YtehemfnjfhnfiaaDoorRows
import GoSem.ClaimSeven
namespace Go.Proofs.YtehemfnjfhnfiaaDoor
namespace Rows

/-- THE TIED CARD OF 'wattlelaw.Fields'. -/
def fieldsCard : Claim7 := { stood := { row := fieldsRow, standIns := [], harness := (true, "f5a9faa022db3509b21d9a1196438cfa3a5f5dac24994427abd10fe64d6d773b"), looks := false }, kinds := [], alts := [], laidByText := true, laidKinds := [.data], laidTests := true, laidLooks := .later }
def FieldsCardSaid : Prop := Claim7.holds Tryd.pinned (.plain (OpenSpec.ofChange fieldsSpec)) fieldsCard

/-- THE TIED CARD OF 'wattlekeep.Field'. -/
def fieldCard : Claim7 := { stood := { row := fieldRow, standIns := [], harness := (true, "f5a9faa022db3509b21d9a1196438cfa3a5f5dac24994427abd10fe64d6d773b"), looks := false }, kinds := [], alts := [], laidByText := true, laidKinds := [.data], laidTests := true, laidLooks := .later }
def FieldCardSaid : Prop := Claim7.holds Tryd.pinned (.plain (OpenSpec.ofChange fieldSpec)) fieldCard

/-- THE TIED CARD OF 'wattlelaw.Spreads'. -/
def spreadsCard : Claim7 := { stood := { row := spreadsRow, standIns := [], harness := (true, "f5a9faa022db3509b21d9a1196438cfa3a5f5dac24994427abd10fe64d6d773b"), looks := false }, kinds := [], alts := [], laidByText := true, laidKinds := [.data], laidTests := true, laidLooks := .later }
def SpreadsCardSaid : Prop := Claim7.holds Tryd.pinned (.plain (OpenSpec.ofChange spreadsSpec)) spreadsCard

/-- THE SECOND FORM's CARD OF 'wattlelaw.Fields'. -/
def fieldsUptoCard : Claim7 := { stood := { row := fieldsUptoRow, standIns := [], harness := (true, "f5a9faa022db3509b21d9a1196438cfa3a5f5dac24994427abd10fe64d6d773b"), looks := false }, kinds := [], alts := [], laidByText := true, laidKinds := [.data], laidTests := true, laidLooks := .later }
def FieldsUptoCardSaid : Prop := Claim7.holds Tryd.pinned (.plain (OpenSpec.upto fieldsSpec)) fieldsUptoCard

/-- THE SECOND FORM's CARD OF 'wattlekeep.Field'. -/
def fieldUptoCard : Claim7 := { stood := { row := fieldUptoRow, standIns := [], harness := (true, "f5a9faa022db3509b21d9a1196438cfa3a5f5dac24994427abd10fe64d6d773b"), looks := false }, kinds := [], alts := [], laidByText := true, laidKinds := [.data], laidTests := true, laidLooks := .later }
def FieldUptoCardSaid : Prop := Claim7.holds Tryd.pinned (.plain (OpenSpec.upto fieldSpec)) fieldUptoCard

/-- THE SECOND FORM's CARD OF 'wattlelaw.Spreads'. -/
def spreadsUptoCard : Claim7 := { stood := { row := spreadsUptoRow, standIns := [], harness := (true, "f5a9faa022db3509b21d9a1196438cfa3a5f5dac24994427abd10fe64d6d773b"), looks := false }, kinds := [], alts := [], laidByText := true, laidKinds := [.data], laidTests := true, laidLooks := .later }
def SpreadsUptoCardSaid : Prop := Claim7.holds Tryd.pinned (.plain (OpenSpec.upto spreadsSpec)) spreadsUptoCard
end Rows
end Go.Proofs.YtehemfnjfhnfiaaDoor
