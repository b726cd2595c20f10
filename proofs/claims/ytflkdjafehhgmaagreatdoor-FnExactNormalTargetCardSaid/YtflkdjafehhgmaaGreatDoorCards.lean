/-
  DERIVED. GIVEN WITH THE SEED: THE CARDS: each row of YtflkdjafehhgmaaGreatDoorRows.lean that lists a variable, with what it lists TIED to the program's text (the seventh form; the later family's looks); each row that meets fmt, with fmt's text TOLD by the authors' own Lean function (tested against real Go, not proved from fmt's source: count such statements apart). THE CARD IS WHAT COUNTS. Prove the row's statement (the work); the ties are given (YtflkdjafehhgmaaGreatDoorTie.lean); close each card by the builder's one call (the guide's Derived/Test/ToyasCard.lean, 'card_holds'). Laid BY PROGRAM, IN A SANDBOX (cutbox-door.mjs). By AI agents, Wed Nov 11 2026. No macro, syntax, notation, axiom, sorry.
-/
import Derived.Test.YtflkdjafehhgmaaGreatDoorRows
import GoSem.ClaimSeven
namespace Go.Proofs.YtflkdjafehhgmaaGreatDoor
namespace Rows

/-- THE TIED CARD OF 'laws.FnExactIsAsked'. -/
def fnExactIsAskedCard : Claim7 := { stood := { row := fnExactIsAskedRow, standIns := [], harness := (true, "9f834557a2f4109c3edb9e5d8b82cea299083e00f1bddafe036b84a415967dcb"), looks := true }, kinds := [], alts := [], laidByText := true, laidKinds := [.data, .data, .data, .data, .sentinel, .sentinel, .data, .data, .data, .sentinel, .sentinel, .pinned], laidTests := true, laidLooks := .later }
def FnExactIsAskedCardSaid : Prop := Claim7.holds Tryz.pinned (.plain (OpenSpec.ofChange fnExactIsAskedSpec)) fnExactIsAskedCard

/-- THE TIED CARD OF 'laws.FnExactIsBound'. -/
def fnExactIsBoundCard : Claim7 := { stood := { row := fnExactIsBoundRow, standIns := [], harness := (true, "9f834557a2f4109c3edb9e5d8b82cea299083e00f1bddafe036b84a415967dcb"), looks := true }, kinds := [], alts := [], laidByText := true, laidKinds := [.data, .data, .data, .data, .sentinel, .sentinel, .data, .data, .data, .sentinel, .sentinel, .pinned], laidTests := true, laidLooks := .later }
def FnExactIsBoundCardSaid : Prop := Claim7.holds Tryz.pinned (.plain (OpenSpec.ofChange fnExactIsBoundSpec)) fnExactIsBoundCard

/-- THE TIED CARD OF 'laws.FnExactNormalTarget'. -/
def fnExactNormalTargetCard : Claim7 := { stood := { row := fnExactNormalTargetRow, standIns := [], harness := (true, "9f834557a2f4109c3edb9e5d8b82cea299083e00f1bddafe036b84a415967dcb"), looks := true }, kinds := [], alts := [], laidByText := true, laidKinds := [.data, .data, .data, .data, .sentinel, .sentinel, .pinned, .pinned], laidTests := true, laidLooks := .later }
def FnExactNormalTargetCardSaid : Prop := Claim7.holds Tryz.pinned (.plain (OpenSpec.ofChange fnExactNormalTargetSpec)) fnExactNormalTargetCard

/-- THE TIED CARD OF 'laws.FnExactIsNormalTarget'. -/
def fnExactIsNormalTargetCard : Claim7 := { stood := { row := fnExactIsNormalTargetRow, standIns := [], harness := (true, "9f834557a2f4109c3edb9e5d8b82cea299083e00f1bddafe036b84a415967dcb"), looks := true }, kinds := [], alts := [], laidByText := true, laidKinds := [.data, .data, .data, .data, .sentinel, .sentinel, .pinned, .pinned], laidTests := true, laidLooks := .later }
def FnExactIsNormalTargetCardSaid : Prop := Claim7.holds Tryz.pinned (.plain (OpenSpec.ofChange fnExactIsNormalTargetSpec)) fnExactIsNormalTargetCard

/-- THE TIED CARD OF 'laws.FnExactKeyOf'. -/
def fnExactKeyOfCard : Claim7 := { stood := { row := fnExactKeyOfRow, standIns := [], harness := (true, "9f834557a2f4109c3edb9e5d8b82cea299083e00f1bddafe036b84a415967dcb"), looks := true }, kinds := [], alts := [], laidByText := true, laidKinds := [.data, .data, .data, .data, .sentinel, .sentinel, .pinned, .pinned], laidTests := true, laidLooks := .later }
def FnExactKeyOfCardSaid : Prop := Claim7.holds Tryz.pinned (.plain (OpenSpec.ofChange fnExactKeyOfSpec)) fnExactKeyOfCard

/-- THE TIED CARD OF 'laws.FnExactArePageParts'. -/
def fnExactArePagePartsCard : Claim7 := { stood := { row := fnExactArePagePartsRow, standIns := [], harness := (true, "9f834557a2f4109c3edb9e5d8b82cea299083e00f1bddafe036b84a415967dcb"), looks := true }, kinds := [], alts := [], laidByText := true, laidKinds := [.data, .data, .data, .data, .sentinel, .sentinel, .pinned, .pinned], laidTests := true, laidLooks := .later }
def FnExactArePagePartsCardSaid : Prop := Claim7.holds Tryz.pinned (.plain (OpenSpec.ofChange fnExactArePagePartsSpec)) fnExactArePagePartsCard

/-- THE TIED CARD OF 'laws.FnExactIsSimple'. -/
def fnExactIsSimpleCard : Claim7 := { stood := { row := fnExactIsSimpleRow, standIns := [], harness := (true, "9f834557a2f4109c3edb9e5d8b82cea299083e00f1bddafe036b84a415967dcb"), looks := true }, kinds := [], alts := [], laidByText := true, laidKinds := [.data, .data, .data, .data, .sentinel, .sentinel, .pinned, .pinned], laidTests := true, laidLooks := .later }
def FnExactIsSimpleCardSaid : Prop := Claim7.holds Tryz.pinned (.plain (OpenSpec.ofChange fnExactIsSimpleSpec)) fnExactIsSimpleCard

/-- THE SECOND FORM's CARD OF 'laws.FnExactIsAsked'. -/
def fnExactIsAskedUptoCard : Claim7 := { stood := { row := fnExactIsAskedUptoRow, standIns := [], harness := (true, "9f834557a2f4109c3edb9e5d8b82cea299083e00f1bddafe036b84a415967dcb"), looks := true }, kinds := [], alts := [], laidByText := true, laidKinds := [.data, .data, .data, .data, .sentinel, .sentinel, .data, .data, .data, .sentinel, .sentinel, .pinned], laidTests := true, laidLooks := .later }
def FnExactIsAskedUptoCardSaid : Prop := Claim7.holds Tryz.pinned (.plain (OpenSpec.upto fnExactIsAskedSpec)) fnExactIsAskedUptoCard

/-- THE SECOND FORM's CARD OF 'laws.FnExactIsBound'. -/
def fnExactIsBoundUptoCard : Claim7 := { stood := { row := fnExactIsBoundUptoRow, standIns := [], harness := (true, "9f834557a2f4109c3edb9e5d8b82cea299083e00f1bddafe036b84a415967dcb"), looks := true }, kinds := [], alts := [], laidByText := true, laidKinds := [.data, .data, .data, .data, .sentinel, .sentinel, .data, .data, .data, .sentinel, .sentinel, .pinned], laidTests := true, laidLooks := .later }
def FnExactIsBoundUptoCardSaid : Prop := Claim7.holds Tryz.pinned (.plain (OpenSpec.upto fnExactIsBoundSpec)) fnExactIsBoundUptoCard

/-- THE SECOND FORM's CARD OF 'laws.FnExactNormalTarget'. -/
def fnExactNormalTargetUptoCard : Claim7 := { stood := { row := fnExactNormalTargetUptoRow, standIns := [], harness := (true, "9f834557a2f4109c3edb9e5d8b82cea299083e00f1bddafe036b84a415967dcb"), looks := true }, kinds := [], alts := [], laidByText := true, laidKinds := [.data, .data, .data, .data, .sentinel, .sentinel, .pinned, .pinned], laidTests := true, laidLooks := .later }
def FnExactNormalTargetUptoCardSaid : Prop := Claim7.holds Tryz.pinned (.plain (OpenSpec.upto fnExactNormalTargetSpec)) fnExactNormalTargetUptoCard

/-- THE SECOND FORM's CARD OF 'laws.FnExactIsNormalTarget'. -/
def fnExactIsNormalTargetUptoCard : Claim7 := { stood := { row := fnExactIsNormalTargetUptoRow, standIns := [], harness := (true, "9f834557a2f4109c3edb9e5d8b82cea299083e00f1bddafe036b84a415967dcb"), looks := true }, kinds := [], alts := [], laidByText := true, laidKinds := [.data, .data, .data, .data, .sentinel, .sentinel, .pinned, .pinned], laidTests := true, laidLooks := .later }
def FnExactIsNormalTargetUptoCardSaid : Prop := Claim7.holds Tryz.pinned (.plain (OpenSpec.upto fnExactIsNormalTargetSpec)) fnExactIsNormalTargetUptoCard

/-- THE SECOND FORM's CARD OF 'laws.FnExactKeyOf'. -/
def fnExactKeyOfUptoCard : Claim7 := { stood := { row := fnExactKeyOfUptoRow, standIns := [], harness := (true, "9f834557a2f4109c3edb9e5d8b82cea299083e00f1bddafe036b84a415967dcb"), looks := true }, kinds := [], alts := [], laidByText := true, laidKinds := [.data, .data, .data, .data, .sentinel, .sentinel, .pinned, .pinned], laidTests := true, laidLooks := .later }
def FnExactKeyOfUptoCardSaid : Prop := Claim7.holds Tryz.pinned (.plain (OpenSpec.upto fnExactKeyOfSpec)) fnExactKeyOfUptoCard

/-- THE SECOND FORM's CARD OF 'laws.FnExactArePageParts'. -/
def fnExactArePagePartsUptoCard : Claim7 := { stood := { row := fnExactArePagePartsUptoRow, standIns := [], harness := (true, "9f834557a2f4109c3edb9e5d8b82cea299083e00f1bddafe036b84a415967dcb"), looks := true }, kinds := [], alts := [], laidByText := true, laidKinds := [.data, .data, .data, .data, .sentinel, .sentinel, .pinned, .pinned], laidTests := true, laidLooks := .later }
def FnExactArePagePartsUptoCardSaid : Prop := Claim7.holds Tryz.pinned (.plain (OpenSpec.upto fnExactArePagePartsSpec)) fnExactArePagePartsUptoCard

/-- THE SECOND FORM's CARD OF 'laws.FnExactIsSimple'. -/
def fnExactIsSimpleUptoCard : Claim7 := { stood := { row := fnExactIsSimpleUptoRow, standIns := [], harness := (true, "9f834557a2f4109c3edb9e5d8b82cea299083e00f1bddafe036b84a415967dcb"), looks := true }, kinds := [], alts := [], laidByText := true, laidKinds := [.data, .data, .data, .data, .sentinel, .sentinel, .pinned, .pinned], laidTests := true, laidLooks := .later }
def FnExactIsSimpleUptoCardSaid : Prop := Claim7.holds Tryz.pinned (.plain (OpenSpec.upto fnExactIsSimpleSpec)) fnExactIsSimpleUptoCard
end Rows
end Go.Proofs.YtflkdjafehhgmaaGreatDoor
