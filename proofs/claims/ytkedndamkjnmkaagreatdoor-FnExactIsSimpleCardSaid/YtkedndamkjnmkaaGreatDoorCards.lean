/-
  DERIVED. GIVEN WITH THE SEED: THE CARDS: each row of YtkedndamkjnmkaaGreatDoorRows.lean that lists a variable, with what it lists TIED to the program's text (the seventh form; the later family's looks); each row that meets fmt, with fmt's text TOLD by the authors' own Lean function (tested against real Go, not proved from fmt's source: count such statements apart). THE CARD IS WHAT COUNTS. Prove the row's statement (the work); the ties are given (YtkedndamkjnmkaaGreatDoorTie.lean); close each card by the builder's one call (the guide's Derived/Test/ToyasCard.lean, 'card_holds'). Laid BY PROGRAM, IN A SANDBOX (cutbox-door.mjs). By AI agents, Wed Nov 11 2026. No macro, syntax, notation, axiom, sorry.
-/
import Derived.Test.YtkedndamkjnmkaaGreatDoorRows
import GoSem.ClaimSeven
namespace Go.Proofs.YtkedndamkjnmkaaGreatDoor
namespace Rows

/-- THE TIED CARD OF 'laws.FnExactIsNormalTarget'. -/
def fnExactIsNormalTargetCard : Claim7 := { stood := { row := fnExactIsNormalTargetRow, standIns := [], harness := (true, "dbc7068ba90005a5fa2e7709b8b8c613287ec191cf8d7ea6a58d75aaac208968"), looks := true }, kinds := [], alts := [], laidByText := true, laidKinds := [.data, .data, .data, .data, .sentinel, .sentinel, .pinned, .pinned], laidTests := true, laidLooks := .later }
def FnExactIsNormalTargetCardSaid : Prop := Claim7.holds Tryz.pinned (.plain (OpenSpec.ofChange fnExactIsNormalTargetSpec)) fnExactIsNormalTargetCard

/-- THE TIED CARD OF 'laws.FnExactKeyOf'. -/
def fnExactKeyOfCard : Claim7 := { stood := { row := fnExactKeyOfRow, standIns := [], harness := (true, "dbc7068ba90005a5fa2e7709b8b8c613287ec191cf8d7ea6a58d75aaac208968"), looks := true }, kinds := [], alts := [], laidByText := true, laidKinds := [.data, .data, .data, .data, .sentinel, .sentinel, .pinned, .pinned], laidTests := true, laidLooks := .later }
def FnExactKeyOfCardSaid : Prop := Claim7.holds Tryz.pinned (.plain (OpenSpec.ofChange fnExactKeyOfSpec)) fnExactKeyOfCard

/-- THE TIED CARD OF 'laws.FnExactIsSimple'. -/
def fnExactIsSimpleCard : Claim7 := { stood := { row := fnExactIsSimpleRow, standIns := [], harness := (true, "dbc7068ba90005a5fa2e7709b8b8c613287ec191cf8d7ea6a58d75aaac208968"), looks := true }, kinds := [], alts := [], laidByText := true, laidKinds := [.data, .data, .data, .data, .sentinel, .sentinel, .pinned, .pinned], laidTests := true, laidLooks := .later }
def FnExactIsSimpleCardSaid : Prop := Claim7.holds Tryz.pinned (.plain (OpenSpec.ofChange fnExactIsSimpleSpec)) fnExactIsSimpleCard

/-- THE TIED CARD OF 'laws.FnExactArePageParts'. -/
def fnExactArePagePartsCard : Claim7 := { stood := { row := fnExactArePagePartsRow, standIns := [], harness := (true, "dbc7068ba90005a5fa2e7709b8b8c613287ec191cf8d7ea6a58d75aaac208968"), looks := true }, kinds := [], alts := [], laidByText := true, laidKinds := [.data, .data, .data, .data, .sentinel, .sentinel, .pinned, .pinned], laidTests := true, laidLooks := .later }
def FnExactArePagePartsCardSaid : Prop := Claim7.holds Tryz.pinned (.plain (OpenSpec.ofChange fnExactArePagePartsSpec)) fnExactArePagePartsCard

/-- THE SECOND FORM's CARD OF 'laws.FnExactIsNormalTarget'. -/
def fnExactIsNormalTargetUptoCard : Claim7 := { stood := { row := fnExactIsNormalTargetUptoRow, standIns := [], harness := (true, "dbc7068ba90005a5fa2e7709b8b8c613287ec191cf8d7ea6a58d75aaac208968"), looks := true }, kinds := [], alts := [], laidByText := true, laidKinds := [.data, .data, .data, .data, .sentinel, .sentinel, .pinned, .pinned], laidTests := true, laidLooks := .later }
def FnExactIsNormalTargetUptoCardSaid : Prop := Claim7.holds Tryz.pinned (.plain (OpenSpec.upto fnExactIsNormalTargetSpec)) fnExactIsNormalTargetUptoCard

/-- THE SECOND FORM's CARD OF 'laws.FnExactKeyOf'. -/
def fnExactKeyOfUptoCard : Claim7 := { stood := { row := fnExactKeyOfUptoRow, standIns := [], harness := (true, "dbc7068ba90005a5fa2e7709b8b8c613287ec191cf8d7ea6a58d75aaac208968"), looks := true }, kinds := [], alts := [], laidByText := true, laidKinds := [.data, .data, .data, .data, .sentinel, .sentinel, .pinned, .pinned], laidTests := true, laidLooks := .later }
def FnExactKeyOfUptoCardSaid : Prop := Claim7.holds Tryz.pinned (.plain (OpenSpec.upto fnExactKeyOfSpec)) fnExactKeyOfUptoCard

/-- THE SECOND FORM's CARD OF 'laws.FnExactIsSimple'. -/
def fnExactIsSimpleUptoCard : Claim7 := { stood := { row := fnExactIsSimpleUptoRow, standIns := [], harness := (true, "dbc7068ba90005a5fa2e7709b8b8c613287ec191cf8d7ea6a58d75aaac208968"), looks := true }, kinds := [], alts := [], laidByText := true, laidKinds := [.data, .data, .data, .data, .sentinel, .sentinel, .pinned, .pinned], laidTests := true, laidLooks := .later }
def FnExactIsSimpleUptoCardSaid : Prop := Claim7.holds Tryz.pinned (.plain (OpenSpec.upto fnExactIsSimpleSpec)) fnExactIsSimpleUptoCard

/-- THE SECOND FORM's CARD OF 'laws.FnExactArePageParts'. -/
def fnExactArePagePartsUptoCard : Claim7 := { stood := { row := fnExactArePagePartsUptoRow, standIns := [], harness := (true, "dbc7068ba90005a5fa2e7709b8b8c613287ec191cf8d7ea6a58d75aaac208968"), looks := true }, kinds := [], alts := [], laidByText := true, laidKinds := [.data, .data, .data, .data, .sentinel, .sentinel, .pinned, .pinned], laidTests := true, laidLooks := .later }
def FnExactArePagePartsUptoCardSaid : Prop := Claim7.holds Tryz.pinned (.plain (OpenSpec.upto fnExactArePagePartsSpec)) fnExactArePagePartsUptoCard
end Rows
end Go.Proofs.YtkedndamkjnmkaaGreatDoor
