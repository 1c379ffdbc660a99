/-
  NARROWER THAN 'FOR EVERY INPUT', by the rows' own cells (each row's printed sentence says how): Fields: laid · Field: laid · Spreads: laid · Gathers: laid · Changes: laid · Restored: laid · Changed: laid · Plans: laid · Planned: laid · Ways: laid · Packs: laid.
  DERIVED. THE GIVEN ROWS OF THIS SEAT. 11 by the template 'for every input the law returns true; each argument reads behind the call as it read before'; 0 by the template 'total and deterministic' (their statements: YtokmllopbfmadaaDoorTotals.lean).
  GIVEN WITH THE SEED: the statements are not yours to turn. If you find one false, say at which input.
  Laid BY PROGRAM, IN A SANDBOX (cutbox-rows.mjs): the forced cells as the released guide's own fill.sh prints them over the translation 979eef974d28b64c… (all of the seat's roots in one cut). By AI agents, Wed Nov 11 2026. No macro, syntax, notation, axiom, sorry.
-/
import Derived.Test.YtokmllopbfmadaaDoorChecked
import GoSem.Claim
import GoSem.ClaimJoined
import GoSem.ClaimMapViews
import Derived.JoinedTies
import Derived.KernelRfl
namespace Go.Proofs.YtokmllopbfmadaaDoor
/- THE CELL 'sum', in the pinned program and in every row, IS THE sha256 OF THE DUMP (.gsa) THAT YtokmllopbfmadaaDoorProg.lean LOADS. Nothing in Lean hashes anything: it is a label: what it is worth is what the hold of that sum in a sandbox is worth. -/
noncomputable def Tryd.pinned : Pinned := { name := "ytokmllopbfmadaadoor", sum := "979eef974d28b64cc96fc4754b9cd9b1934605cea5864d956e465cea3f58edcb", checked := Tryd.checked }
namespace Rows
def none {H : Type} : Left H := { results := [], args := [] }

/- WHAT THE LISTED PACKAGE-LEVEL VARIABLES READ AS WHEN THE CALL BEGINS. Each datum BY PROGRAM (the guide's laid-datum.mjs) off the statement by which the dump's own 'gosem.cut.vars' lays the variable. In a bare row this is a premise. The card (YtokmllopbfmadaaDoorCards.lean) ties it to the program's text. -/
def laid_wattle_field_highPowers {H : Type} : DataW H := .agg [.lit (.int .u8 29), .lit (.int .u8 58), .lit (.int .u8 116), .lit (.int .u8 232), .lit (.int .u8 205), .lit (.int .u8 135), .lit (.int .u8 19)]

/-- 'wattlelaw.Fields': WHATEVER THE INPUT: true; the input reads as it did. -/
def fieldsSpec : ChangeSpec := { name := "fields", fn := fun _ => fun
  | [d1, d2] => { results := [.lit (.bool true)], args := [d1, d2] }
  | _ => none }
def fieldsRow : OpenClaim := { program := "ytokmllopbfmadaadoor", sum := "979eef974d28b64cc96fc4754b9cd9b1934605cea5864d956e465cea3f58edcb", func := "wattle/wattlelaw.Fields", spec := "fields", named := ["wattle/field.highPowers"], plainKeys := false, apart := false, laid := [("wattle/field.highPowers", laid_wattle_field_highPowers)] }
def FieldsSaid : Prop := fieldsRow.holds Tryd.pinned (OpenSpec.ofChange fieldsSpec)

/-- ITS FALSE NEIGHBOUR: 'it returns false'. Refute it at one input. -/
def fieldsWrong : ChangeSpec := { name := "fields", fn := fun _ => fun
  | [d1, d2] => { results := [.lit (.bool false)], args := [d1, d2] }
  | _ => none }
def FieldsWrongFalsely : Prop := fieldsRow.holds Tryd.pinned (OpenSpec.ofChange fieldsWrong)

/-- 'wattlekeep.Field': WHATEVER THE INPUT: true; the input reads as it did. -/
def fieldSpec : ChangeSpec := { name := "field", fn := fun _ => fun
  | [d1, d2, d3] => { results := [.lit (.bool true)], args := [d1, d2, d3] }
  | _ => none }
def fieldRow : OpenClaim := { program := "ytokmllopbfmadaadoor", sum := "979eef974d28b64cc96fc4754b9cd9b1934605cea5864d956e465cea3f58edcb", func := "wattle/wattlekeep.Field", spec := "field", named := ["wattle/field.highPowers"], plainKeys := false, apart := false, laid := [("wattle/field.highPowers", laid_wattle_field_highPowers)] }
def FieldSaid : Prop := fieldRow.holds Tryd.pinned (OpenSpec.ofChange fieldSpec)

/-- ITS FALSE NEIGHBOUR: 'it returns false'. Refute it at one input. -/
def fieldWrong : ChangeSpec := { name := "field", fn := fun _ => fun
  | [d1, d2, d3] => { results := [.lit (.bool false)], args := [d1, d2, d3] }
  | _ => none }
def FieldWrongFalsely : Prop := fieldRow.holds Tryd.pinned (OpenSpec.ofChange fieldWrong)

/-- 'wattlelaw.Spreads': WHATEVER THE INPUT: true; the input reads as it did. -/
def spreadsSpec : ChangeSpec := { name := "spreads", fn := fun _ => fun
  | [d1, d2, d3, d4] => { results := [.lit (.bool true)], args := [d1, d2, d3, d4] }
  | _ => none }
def spreadsRow : OpenClaim := { program := "ytokmllopbfmadaadoor", sum := "979eef974d28b64cc96fc4754b9cd9b1934605cea5864d956e465cea3f58edcb", func := "wattle/wattlelaw.Spreads", spec := "spreads", unfollowed := true, recurses := true, named := ["wattle/field.highPowers"], plainKeys := false, apart := false, laid := [("wattle/field.highPowers", laid_wattle_field_highPowers)] }
def SpreadsSaid : Prop := spreadsRow.holds Tryd.pinned (OpenSpec.ofChange spreadsSpec)

/-- ITS FALSE NEIGHBOUR: 'it returns false'. Refute it at one input. -/
def spreadsWrong : ChangeSpec := { name := "spreads", fn := fun _ => fun
  | [d1, d2, d3, d4] => { results := [.lit (.bool false)], args := [d1, d2, d3, d4] }
  | _ => none }
def SpreadsWrongFalsely : Prop := spreadsRow.holds Tryd.pinned (OpenSpec.ofChange spreadsWrong)

/-- 'wattlelaw.Gathers': WHATEVER THE INPUT: true; the input reads as it did. -/
def gathersSpec : ChangeSpec := { name := "gathers", fn := fun _ => fun
  | [d1, d2, d3, d4, d5, d6] => { results := [.lit (.bool true)], args := [d1, d2, d3, d4, d5, d6] }
  | _ => none }
def gathersRow : OpenClaim := { program := "ytokmllopbfmadaadoor", sum := "979eef974d28b64cc96fc4754b9cd9b1934605cea5864d956e465cea3f58edcb", func := "wattle/wattlelaw.Gathers", spec := "gathers", inPlace := ["internal/bytealg.MakeNoZero"], unfollowed := true, recurses := true, named := ["wattle/field.highPowers"], plainKeys := false, apart := false, laid := [("wattle/field.highPowers", laid_wattle_field_highPowers)] }
def GathersSaid : Prop := gathersRow.holds Tryd.pinned (OpenSpec.ofChange gathersSpec)

/-- ITS FALSE NEIGHBOUR: 'it returns false'. Refute it at one input. -/
def gathersWrong : ChangeSpec := { name := "gathers", fn := fun _ => fun
  | [d1, d2, d3, d4, d5, d6] => { results := [.lit (.bool false)], args := [d1, d2, d3, d4, d5, d6] }
  | _ => none }
def GathersWrongFalsely : Prop := gathersRow.holds Tryd.pinned (OpenSpec.ofChange gathersWrong)

/-- 'wattlelaw.Changes': WHATEVER THE INPUT: true; the input reads as it did. -/
def changesSpec : ChangeSpec := { name := "changes", fn := fun _ => fun
  | [d1, d2, d3, d4, d5, d6] => { results := [.lit (.bool true)], args := [d1, d2, d3, d4, d5, d6] }
  | _ => none }
def changesRow : OpenClaim := { program := "ytokmllopbfmadaadoor", sum := "979eef974d28b64cc96fc4754b9cd9b1934605cea5864d956e465cea3f58edcb", func := "wattle/wattlelaw.Changes", spec := "changes", named := ["wattle/field.highPowers"], plainKeys := false, apart := false, laid := [("wattle/field.highPowers", laid_wattle_field_highPowers)] }
def ChangesSaid : Prop := changesRow.holds Tryd.pinned (OpenSpec.ofChange changesSpec)

/-- ITS FALSE NEIGHBOUR: 'it returns false'. Refute it at one input. -/
def changesWrong : ChangeSpec := { name := "changes", fn := fun _ => fun
  | [d1, d2, d3, d4, d5, d6] => { results := [.lit (.bool false)], args := [d1, d2, d3, d4, d5, d6] }
  | _ => none }
def ChangesWrongFalsely : Prop := changesRow.holds Tryd.pinned (OpenSpec.ofChange changesWrong)

/-- 'wattlekeep.Restored': WHATEVER THE INPUT: true; the input reads as it did. -/
def restoredSpec : ChangeSpec := { name := "restored", fn := fun _ => fun
  | [d1, d2, d3, d4, d5, d6] => { results := [.lit (.bool true)], args := [d1, d2, d3, d4, d5, d6] }
  | _ => none }
def restoredRow : OpenClaim := { program := "ytokmllopbfmadaadoor", sum := "979eef974d28b64cc96fc4754b9cd9b1934605cea5864d956e465cea3f58edcb", func := "wattle/wattlekeep.Restored", spec := "restored", inPlace := ["internal/bytealg.MakeNoZero"], unfollowed := true, recurses := true, named := ["wattle/field.highPowers"], plainKeys := false, apart := false, laid := [("wattle/field.highPowers", laid_wattle_field_highPowers)] }
def RestoredSaid : Prop := restoredRow.holds Tryd.pinned (OpenSpec.ofChange restoredSpec)

/-- ITS FALSE NEIGHBOUR: 'it returns false'. Refute it at one input. -/
def restoredWrong : ChangeSpec := { name := "restored", fn := fun _ => fun
  | [d1, d2, d3, d4, d5, d6] => { results := [.lit (.bool false)], args := [d1, d2, d3, d4, d5, d6] }
  | _ => none }
def RestoredWrongFalsely : Prop := restoredRow.holds Tryd.pinned (OpenSpec.ofChange restoredWrong)

/-- 'wattlekeep.Changed': WHATEVER THE INPUT: true; the input reads as it did. -/
def changedSpec : ChangeSpec := { name := "changed", fn := fun _ => fun
  | [d1, d2, d3, d4, d5] => { results := [.lit (.bool true)], args := [d1, d2, d3, d4, d5] }
  | _ => none }
def changedRow : OpenClaim := { program := "ytokmllopbfmadaadoor", sum := "979eef974d28b64cc96fc4754b9cd9b1934605cea5864d956e465cea3f58edcb", func := "wattle/wattlekeep.Changed", spec := "changed", unfollowed := true, recurses := true, named := ["wattle/field.highPowers"], plainKeys := false, apart := false, laid := [("wattle/field.highPowers", laid_wattle_field_highPowers)] }
def ChangedSaid : Prop := changedRow.holds Tryd.pinned (OpenSpec.ofChange changedSpec)

/-- ITS FALSE NEIGHBOUR: 'it returns false'. Refute it at one input. -/
def changedWrong : ChangeSpec := { name := "changed", fn := fun _ => fun
  | [d1, d2, d3, d4, d5] => { results := [.lit (.bool false)], args := [d1, d2, d3, d4, d5] }
  | _ => none }
def ChangedWrongFalsely : Prop := changedRow.holds Tryd.pinned (OpenSpec.ofChange changedWrong)

/-- 'wattlelaw.Plans': WHATEVER THE INPUT: true; the input reads as it did. -/
def plansSpec : ChangeSpec := { name := "plans", fn := fun _ => fun
  | [d1, d2] => { results := [.lit (.bool true)], args := [d1, d2] }
  | _ => none }
def plansRow : OpenClaim := { program := "ytokmllopbfmadaadoor", sum := "979eef974d28b64cc96fc4754b9cd9b1934605cea5864d956e465cea3f58edcb", func := "wattle/wattlelaw.Plans", spec := "plans", unfollowed := true, recurses := true, named := ["wattle/field.highPowers"], plainKeys := false, apart := false, laid := [("wattle/field.highPowers", laid_wattle_field_highPowers)] }
def PlansSaid : Prop := plansRow.holds Tryd.pinned (OpenSpec.ofChange plansSpec)

/-- ITS FALSE NEIGHBOUR: 'it returns false'. Refute it at one input. -/
def plansWrong : ChangeSpec := { name := "plans", fn := fun _ => fun
  | [d1, d2] => { results := [.lit (.bool false)], args := [d1, d2] }
  | _ => none }
def PlansWrongFalsely : Prop := plansRow.holds Tryd.pinned (OpenSpec.ofChange plansWrong)

/-- 'wattlekeep.Planned': WHATEVER THE INPUT: true; the input reads as it did. -/
def plannedSpec : ChangeSpec := { name := "planned", fn := fun _ => fun
  | [d1, d2, d3] => { results := [.lit (.bool true)], args := [d1, d2, d3] }
  | _ => none }
def plannedRow : OpenClaim := { program := "ytokmllopbfmadaadoor", sum := "979eef974d28b64cc96fc4754b9cd9b1934605cea5864d956e465cea3f58edcb", func := "wattle/wattlekeep.Planned", spec := "planned", unfollowed := true, recurses := true, named := ["wattle/field.highPowers"], plainKeys := false, apart := false, laid := [("wattle/field.highPowers", laid_wattle_field_highPowers)] }
def PlannedSaid : Prop := plannedRow.holds Tryd.pinned (OpenSpec.ofChange plannedSpec)

/-- ITS FALSE NEIGHBOUR: 'it returns false'. Refute it at one input. -/
def plannedWrong : ChangeSpec := { name := "planned", fn := fun _ => fun
  | [d1, d2, d3] => { results := [.lit (.bool false)], args := [d1, d2, d3] }
  | _ => none }
def PlannedWrongFalsely : Prop := plannedRow.holds Tryd.pinned (OpenSpec.ofChange plannedWrong)

/-- 'wattlekeep.Ways': WHATEVER THE INPUT: true; the input reads as it did. -/
def waysSpec : ChangeSpec := { name := "ways", fn := fun _ => fun
  | [d1, d2, d3, d4] => { results := [.lit (.bool true)], args := [d1, d2, d3, d4] }
  | _ => none }
def waysRow : OpenClaim := { program := "ytokmllopbfmadaadoor", sum := "979eef974d28b64cc96fc4754b9cd9b1934605cea5864d956e465cea3f58edcb", func := "wattle/wattlekeep.Ways", spec := "ways", inPlace := ["internal/bytealg.MakeNoZero"], unfollowed := true, recurses := true, named := ["wattle/field.highPowers"], plainKeys := false, apart := false, laid := [("wattle/field.highPowers", laid_wattle_field_highPowers)] }
def WaysSaid : Prop := waysRow.holds Tryd.pinned (OpenSpec.ofChange waysSpec)

/-- ITS FALSE NEIGHBOUR: 'it returns false'. Refute it at one input. -/
def waysWrong : ChangeSpec := { name := "ways", fn := fun _ => fun
  | [d1, d2, d3, d4] => { results := [.lit (.bool false)], args := [d1, d2, d3, d4] }
  | _ => none }
def WaysWrongFalsely : Prop := waysRow.holds Tryd.pinned (OpenSpec.ofChange waysWrong)

/-- 'wattlelaw.Packs': WHATEVER THE INPUT: true; the input reads as it did. -/
def packsSpec : ChangeSpec := { name := "packs", fn := fun _ => fun
  | [d1, d2, d3, d4, d5] => { results := [.lit (.bool true)], args := [d1, d2, d3, d4, d5] }
  | _ => none }
def packsRow : OpenClaim := { program := "ytokmllopbfmadaadoor", sum := "979eef974d28b64cc96fc4754b9cd9b1934605cea5864d956e465cea3f58edcb", func := "wattle/wattlelaw.Packs", spec := "packs", unfollowed := true, recurses := true, named := ["wattle/field.highPowers"], plainKeys := false, apart := false, laid := [("wattle/field.highPowers", laid_wattle_field_highPowers)] }
def PacksSaid : Prop := packsRow.holds Tryd.pinned (OpenSpec.ofChange packsSpec)

/-- ITS FALSE NEIGHBOUR: 'it returns false'. Refute it at one input. -/
def packsWrong : ChangeSpec := { name := "packs", fn := fun _ => fun
  | [d1, d2, d3, d4, d5] => { results := [.lit (.bool false)], args := [d1, d2, d3, d4, d5] }
  | _ => none }
def PacksWrongFalsely : Prop := packsRow.holds Tryd.pinned (OpenSpec.ofChange packsWrong)

/- THE SECOND FORM. 'bulk': how many values and letters a reading holds, each counted each time it is reached (what is shared counts as often as it is met; a slice's spare places count too). A statement '..UptoSaid' is the law's where the arguments, and the package variables that the reading takes, are together of bulk at most 1048576: NARROWER than '..Said'. Prove '..Said' where nothing that the law and all that it calls make is longer than what came in: it says more and counts as full. Else prove '..UptoSaid'. A law counts once. -/
mutual
def uptoBulk {H : Type} : DataW H → Nat
  | .lit (.string bytes) => bytes.length + 1
  | .lit _ => 1
  | .nil => 1
  | .ptr d => uptoBulk d + 1
  | .slice elems spare => uptoBulkAll elems + uptoBulkAll spare + 1
  | .agg parts => uptoBulkAll parts + 1
  | .iface _ d => uptoBulk d + 1
  | .map entries => uptoBulkEntries entries + 1
  | .held _ => 1
def uptoBulkAll {H : Type} : List (DataW H) → Nat
  | [] => 0
  | d :: r => uptoBulk d + uptoBulkAll r
def uptoBulkEntries {H : Type} : List (Lit × DataW H) → Nat
  | [] => 0
  | x :: r => uptoBulkEntry x + uptoBulkEntries r
def uptoBulkEntry {H : Type} : Lit × DataW H → Nat
  | (.string bytes, d) => bytes.length + uptoBulk d + 1
  | (_, d) => uptoBulk d + 1
 end
def uptoSmall : (H : Type) → List (DataW H) → Bool := fun _ ds => decide (uptoBulkAll ds ≤ 1048576)
def OpenSpec.upto (s : _root_.Go.ChangeSpec) : _root_.Go.OpenSpec := { _root_.Go.OpenSpec.ofChange s with cond := some uptoSmall }

/-- 'wattlelaw.Fields', WHERE WHAT IT READS IS OF BULK AT MOST 1048576: true; the input reads as it did. -/
def fieldsUptoRow : OpenClaim := { program := "ytokmllopbfmadaadoor", sum := "979eef974d28b64cc96fc4754b9cd9b1934605cea5864d956e465cea3f58edcb", func := "wattle/wattlelaw.Fields", spec := "fields", named := ["wattle/field.highPowers"], plainKeys := false, apart := false, laid := [("wattle/field.highPowers", laid_wattle_field_highPowers)], narrowed := true }
def FieldsUptoSaid : Prop := fieldsUptoRow.holds Tryd.pinned (OpenSpec.upto fieldsSpec)

/-- 'wattlekeep.Field', WHERE WHAT IT READS IS OF BULK AT MOST 1048576: true; the input reads as it did. -/
def fieldUptoRow : OpenClaim := { program := "ytokmllopbfmadaadoor", sum := "979eef974d28b64cc96fc4754b9cd9b1934605cea5864d956e465cea3f58edcb", func := "wattle/wattlekeep.Field", spec := "field", named := ["wattle/field.highPowers"], plainKeys := false, apart := false, laid := [("wattle/field.highPowers", laid_wattle_field_highPowers)], narrowed := true }
def FieldUptoSaid : Prop := fieldUptoRow.holds Tryd.pinned (OpenSpec.upto fieldSpec)

/-- 'wattlelaw.Spreads', WHERE WHAT IT READS IS OF BULK AT MOST 1048576: true; the input reads as it did. -/
def spreadsUptoRow : OpenClaim := { program := "ytokmllopbfmadaadoor", sum := "979eef974d28b64cc96fc4754b9cd9b1934605cea5864d956e465cea3f58edcb", func := "wattle/wattlelaw.Spreads", spec := "spreads", unfollowed := true, recurses := true, named := ["wattle/field.highPowers"], plainKeys := false, apart := false, laid := [("wattle/field.highPowers", laid_wattle_field_highPowers)], narrowed := true }
def SpreadsUptoSaid : Prop := spreadsUptoRow.holds Tryd.pinned (OpenSpec.upto spreadsSpec)

/-- 'wattlelaw.Gathers', WHERE WHAT IT READS IS OF BULK AT MOST 1048576: true; the input reads as it did. -/
def gathersUptoRow : OpenClaim := { program := "ytokmllopbfmadaadoor", sum := "979eef974d28b64cc96fc4754b9cd9b1934605cea5864d956e465cea3f58edcb", func := "wattle/wattlelaw.Gathers", spec := "gathers", inPlace := ["internal/bytealg.MakeNoZero"], unfollowed := true, recurses := true, named := ["wattle/field.highPowers"], plainKeys := false, apart := false, laid := [("wattle/field.highPowers", laid_wattle_field_highPowers)], narrowed := true }
def GathersUptoSaid : Prop := gathersUptoRow.holds Tryd.pinned (OpenSpec.upto gathersSpec)

/-- 'wattlelaw.Changes', WHERE WHAT IT READS IS OF BULK AT MOST 1048576: true; the input reads as it did. -/
def changesUptoRow : OpenClaim := { program := "ytokmllopbfmadaadoor", sum := "979eef974d28b64cc96fc4754b9cd9b1934605cea5864d956e465cea3f58edcb", func := "wattle/wattlelaw.Changes", spec := "changes", named := ["wattle/field.highPowers"], plainKeys := false, apart := false, laid := [("wattle/field.highPowers", laid_wattle_field_highPowers)], narrowed := true }
def ChangesUptoSaid : Prop := changesUptoRow.holds Tryd.pinned (OpenSpec.upto changesSpec)

/-- 'wattlekeep.Restored', WHERE WHAT IT READS IS OF BULK AT MOST 1048576: true; the input reads as it did. -/
def restoredUptoRow : OpenClaim := { program := "ytokmllopbfmadaadoor", sum := "979eef974d28b64cc96fc4754b9cd9b1934605cea5864d956e465cea3f58edcb", func := "wattle/wattlekeep.Restored", spec := "restored", inPlace := ["internal/bytealg.MakeNoZero"], unfollowed := true, recurses := true, named := ["wattle/field.highPowers"], plainKeys := false, apart := false, laid := [("wattle/field.highPowers", laid_wattle_field_highPowers)], narrowed := true }
def RestoredUptoSaid : Prop := restoredUptoRow.holds Tryd.pinned (OpenSpec.upto restoredSpec)

/-- 'wattlekeep.Changed', WHERE WHAT IT READS IS OF BULK AT MOST 1048576: true; the input reads as it did. -/
def changedUptoRow : OpenClaim := { program := "ytokmllopbfmadaadoor", sum := "979eef974d28b64cc96fc4754b9cd9b1934605cea5864d956e465cea3f58edcb", func := "wattle/wattlekeep.Changed", spec := "changed", unfollowed := true, recurses := true, named := ["wattle/field.highPowers"], plainKeys := false, apart := false, laid := [("wattle/field.highPowers", laid_wattle_field_highPowers)], narrowed := true }
def ChangedUptoSaid : Prop := changedUptoRow.holds Tryd.pinned (OpenSpec.upto changedSpec)

/-- 'wattlelaw.Plans', WHERE WHAT IT READS IS OF BULK AT MOST 1048576: true; the input reads as it did. -/
def plansUptoRow : OpenClaim := { program := "ytokmllopbfmadaadoor", sum := "979eef974d28b64cc96fc4754b9cd9b1934605cea5864d956e465cea3f58edcb", func := "wattle/wattlelaw.Plans", spec := "plans", unfollowed := true, recurses := true, named := ["wattle/field.highPowers"], plainKeys := false, apart := false, laid := [("wattle/field.highPowers", laid_wattle_field_highPowers)], narrowed := true }
def PlansUptoSaid : Prop := plansUptoRow.holds Tryd.pinned (OpenSpec.upto plansSpec)

/-- 'wattlekeep.Planned', WHERE WHAT IT READS IS OF BULK AT MOST 1048576: true; the input reads as it did. -/
def plannedUptoRow : OpenClaim := { program := "ytokmllopbfmadaadoor", sum := "979eef974d28b64cc96fc4754b9cd9b1934605cea5864d956e465cea3f58edcb", func := "wattle/wattlekeep.Planned", spec := "planned", unfollowed := true, recurses := true, named := ["wattle/field.highPowers"], plainKeys := false, apart := false, laid := [("wattle/field.highPowers", laid_wattle_field_highPowers)], narrowed := true }
def PlannedUptoSaid : Prop := plannedUptoRow.holds Tryd.pinned (OpenSpec.upto plannedSpec)

/-- 'wattlekeep.Ways', WHERE WHAT IT READS IS OF BULK AT MOST 1048576: true; the input reads as it did. -/
def waysUptoRow : OpenClaim := { program := "ytokmllopbfmadaadoor", sum := "979eef974d28b64cc96fc4754b9cd9b1934605cea5864d956e465cea3f58edcb", func := "wattle/wattlekeep.Ways", spec := "ways", inPlace := ["internal/bytealg.MakeNoZero"], unfollowed := true, recurses := true, named := ["wattle/field.highPowers"], plainKeys := false, apart := false, laid := [("wattle/field.highPowers", laid_wattle_field_highPowers)], narrowed := true }
def WaysUptoSaid : Prop := waysUptoRow.holds Tryd.pinned (OpenSpec.upto waysSpec)

/-- 'wattlelaw.Packs', WHERE WHAT IT READS IS OF BULK AT MOST 1048576: true; the input reads as it did. -/
def packsUptoRow : OpenClaim := { program := "ytokmllopbfmadaadoor", sum := "979eef974d28b64cc96fc4754b9cd9b1934605cea5864d956e465cea3f58edcb", func := "wattle/wattlelaw.Packs", spec := "packs", unfollowed := true, recurses := true, named := ["wattle/field.highPowers"], plainKeys := false, apart := false, laid := [("wattle/field.highPowers", laid_wattle_field_highPowers)], narrowed := true }
def PacksUptoSaid : Prop := packsUptoRow.holds Tryd.pinned (OpenSpec.upto packsSpec)

end Rows
end Go.Proofs.YtokmllopbfmadaaDoor
