/-
  DERIVED. GIVEN WITH THE SEED: THE CARDS: each row of YtoledhjjbneggaaDoorRows.lean that lists a variable, with what it lists TIED to the program's text (the seventh form; the later family's looks); each row that meets fmt, with fmt's text TOLD by the authors' own Lean function (tested against real Go, not proved from fmt's source: count such statements apart). THE CARD IS WHAT COUNTS. Prove the row's statement (the work); the ties are given (YtoledhjjbneggaaDoorTie.lean); close each card by the builder's one call (the guide's Derived/Test/ToyasCard.lean, 'card_holds'). Laid BY PROGRAM, IN A SANDBOX (cutbox-door.mjs). By AI agents, Wed Nov 11 2026. No macro, syntax, notation, axiom, sorry.
-/
import Derived.Test.YtoledhjjbneggaaDoorRows
import GoSem.ClaimSeven
namespace Go.Proofs.YtoledhjjbneggaaDoor
namespace Rows

/-- THE TIED CARD OF 'laws.FnExactTagOf'. -/
def fnExactTagOfCard : Claim7 := { stood := { row := fnExactTagOfRow, standIns := [], harness := (true, "6afcd8b95154bc1dd68d3132682311c38a6039e4f039cea04f32b42ba612b77d"), looks := true }, kinds := [], alts := [], laidByText := true, laidKinds := [.data, .data, .data], laidTests := true, laidLooks := .later }
def FnExactTagOfCardSaid : Prop := Claim7.holds Tryd.pinned (.plain (OpenSpec.ofChange fnExactTagOfSpec)) fnExactTagOfCard

/-- THE TIED CARD OF 'laws.FnExactAgeField'. -/
def fnExactAgeFieldCard : Claim7 := { stood := { row := fnExactAgeFieldRow, standIns := [], harness := (true, "6afcd8b95154bc1dd68d3132682311c38a6039e4f039cea04f32b42ba612b77d"), looks := true }, kinds := [], alts := [], laidByText := true, laidKinds := [.data, .data, .data, .sentinel, .sentinel], laidTests := true, laidLooks := .later }
def FnExactAgeFieldCardSaid : Prop := Claim7.holds Tryd.pinned (.plain (OpenSpec.ofChange fnExactAgeFieldSpec)) fnExactAgeFieldCard

/-- THE TIED CARD OF 'laws.FnExactWithAge'. -/
def fnExactWithAgeCard : Claim7 := { stood := { row := fnExactWithAgeRow, standIns := [], harness := (true, "6afcd8b95154bc1dd68d3132682311c38a6039e4f039cea04f32b42ba612b77d"), looks := true }, kinds := [], alts := [], laidByText := true, laidKinds := [.data, .data, .data], laidTests := true, laidLooks := .later }
def FnExactWithAgeCardSaid : Prop := Claim7.holds Tryd.pinned (.plain (OpenSpec.ofChange fnExactWithAgeSpec)) fnExactWithAgeCard

/-- THE SECOND FORM's CARD OF 'laws.FnExactTagOf'. -/
def fnExactTagOfUptoCard : Claim7 := { stood := { row := fnExactTagOfUptoRow, standIns := [], harness := (true, "6afcd8b95154bc1dd68d3132682311c38a6039e4f039cea04f32b42ba612b77d"), looks := true }, kinds := [], alts := [], laidByText := true, laidKinds := [.data, .data, .data], laidTests := true, laidLooks := .later }
def FnExactTagOfUptoCardSaid : Prop := Claim7.holds Tryd.pinned (.plain (OpenSpec.upto fnExactTagOfSpec)) fnExactTagOfUptoCard

/-- THE SECOND FORM's CARD OF 'laws.FnExactAgeField'. -/
def fnExactAgeFieldUptoCard : Claim7 := { stood := { row := fnExactAgeFieldUptoRow, standIns := [], harness := (true, "6afcd8b95154bc1dd68d3132682311c38a6039e4f039cea04f32b42ba612b77d"), looks := true }, kinds := [], alts := [], laidByText := true, laidKinds := [.data, .data, .data, .sentinel, .sentinel], laidTests := true, laidLooks := .later }
def FnExactAgeFieldUptoCardSaid : Prop := Claim7.holds Tryd.pinned (.plain (OpenSpec.upto fnExactAgeFieldSpec)) fnExactAgeFieldUptoCard

/-- THE SECOND FORM's CARD OF 'laws.FnExactWithAge'. -/
def fnExactWithAgeUptoCard : Claim7 := { stood := { row := fnExactWithAgeUptoRow, standIns := [], harness := (true, "6afcd8b95154bc1dd68d3132682311c38a6039e4f039cea04f32b42ba612b77d"), looks := true }, kinds := [], alts := [], laidByText := true, laidKinds := [.data, .data, .data], laidTests := true, laidLooks := .later }
def FnExactWithAgeUptoCardSaid : Prop := Claim7.holds Tryd.pinned (.plain (OpenSpec.upto fnExactWithAgeSpec)) fnExactWithAgeUptoCard
end Rows
end Go.Proofs.YtoledhjjbneggaaDoor
