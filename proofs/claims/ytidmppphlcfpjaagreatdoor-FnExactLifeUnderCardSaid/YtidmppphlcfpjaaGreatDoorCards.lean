/-
  DERIVED. GIVEN WITH THE SEED: THE CARDS: each row of YtidmppphlcfpjaaGreatDoorRows.lean that lists a variable, with what it lists TIED to the program's text (the seventh form; the later family's looks); each row that meets fmt, with fmt's text TOLD by the authors' own Lean function (tested against real Go, not proved from fmt's source: count such statements apart). THE CARD IS WHAT COUNTS. Prove the row's statement (the work); the ties are given (YtidmppphlcfpjaaGreatDoorTie.lean); close each card by the builder's one call (the guide's Derived/Test/ToyasCard.lean, 'card_holds'). Laid BY PROGRAM, IN A SANDBOX (cutbox-door.mjs). By AI agents, Wed Nov 11 2026. No macro, syntax, notation, axiom, sorry.
-/
import Derived.Test.YtidmppphlcfpjaaGreatDoorRows
import GoSem.ClaimSeven
namespace Go.Proofs.YtidmppphlcfpjaaGreatDoor
namespace Rows

/-- THE TIED CARD OF 'laws.FnExactParsePage'. -/
def fnExactParsePageCard : Claim7 := { stood := { row := fnExactParsePageRow, standIns := [], harness := (true, "43cc17ce3d9c93067813fe4555841ba15cbeaab0825b62d4632b24bbe5d12cbc"), looks := true }, kinds := [], alts := [], laidByText := true, laidKinds := [.data, .data, .data, .data, .sentinel, .sentinel, .pinned, .pinned], laidTests := true, laidLooks := .later }
def FnExactParsePageCardSaid : Prop := Claim7.holds Tryz.pinned (.plain (OpenSpec.ofChange fnExactParsePageSpec)) fnExactParsePageCard

/-- THE TIED CARD OF 'laws.FnExactIncludesOf'. -/
def fnExactIncludesOfCard : Claim7 := { stood := { row := fnExactIncludesOfRow, standIns := [], harness := (true, "43cc17ce3d9c93067813fe4555841ba15cbeaab0825b62d4632b24bbe5d12cbc"), looks := true }, kinds := [], alts := [], laidByText := true, laidKinds := [.data, .data, .data, .data, .sentinel, .sentinel, .pinned, .pinned], laidTests := true, laidLooks := .later }
def FnExactIncludesOfCardSaid : Prop := Claim7.holds Tryz.pinned (.plain (OpenSpec.ofChange fnExactIncludesOfSpec)) fnExactIncludesOfCard

/-- THE TIED CARD OF 'laws.FnExactLifeUnder'. -/
def fnExactLifeUnderCard : Claim7 := { stood := { row := fnExactLifeUnderRow, standIns := [], harness := (true, "43cc17ce3d9c93067813fe4555841ba15cbeaab0825b62d4632b24bbe5d12cbc"), looks := true }, kinds := [], alts := [], laidByText := true, laidKinds := [.data, .data, .data, .data, .sentinel, .sentinel, .data, .data, .data, .sentinel, .sentinel, .pinned, .pinned], laidTests := true, laidLooks := .later }
def FnExactLifeUnderCardSaid : Prop := Claim7.holds Tryz.pinned (.plain (OpenSpec.ofChange fnExactLifeUnderSpec)) fnExactLifeUnderCard

/-- THE TIED CARD OF 'laws.FnExactPassHops'. -/
def fnExactPassHopsCard : Claim7 := { stood := { row := fnExactPassHopsRow, standIns := [], harness := (true, "43cc17ce3d9c93067813fe4555841ba15cbeaab0825b62d4632b24bbe5d12cbc"), looks := true }, kinds := [], alts := [], laidByText := true, laidKinds := [.data, .data, .data, .sentinel, .sentinel, .data, .data, .data], laidTests := true, laidLooks := .later }
def FnExactPassHopsCardSaid : Prop := Claim7.holds Tryz.pinned (.plain (OpenSpec.ofChange fnExactPassHopsSpec)) fnExactPassHopsCard

/-- THE SECOND FORM's CARD OF 'laws.FnExactParsePage'. -/
def fnExactParsePageUptoCard : Claim7 := { stood := { row := fnExactParsePageUptoRow, standIns := [], harness := (true, "43cc17ce3d9c93067813fe4555841ba15cbeaab0825b62d4632b24bbe5d12cbc"), looks := true }, kinds := [], alts := [], laidByText := true, laidKinds := [.data, .data, .data, .data, .sentinel, .sentinel, .pinned, .pinned], laidTests := true, laidLooks := .later }
def FnExactParsePageUptoCardSaid : Prop := Claim7.holds Tryz.pinned (.plain (OpenSpec.upto fnExactParsePageSpec)) fnExactParsePageUptoCard

/-- THE SECOND FORM's CARD OF 'laws.FnExactIncludesOf'. -/
def fnExactIncludesOfUptoCard : Claim7 := { stood := { row := fnExactIncludesOfUptoRow, standIns := [], harness := (true, "43cc17ce3d9c93067813fe4555841ba15cbeaab0825b62d4632b24bbe5d12cbc"), looks := true }, kinds := [], alts := [], laidByText := true, laidKinds := [.data, .data, .data, .data, .sentinel, .sentinel, .pinned, .pinned], laidTests := true, laidLooks := .later }
def FnExactIncludesOfUptoCardSaid : Prop := Claim7.holds Tryz.pinned (.plain (OpenSpec.upto fnExactIncludesOfSpec)) fnExactIncludesOfUptoCard

/-- THE SECOND FORM's CARD OF 'laws.FnExactLifeUnder'. -/
def fnExactLifeUnderUptoCard : Claim7 := { stood := { row := fnExactLifeUnderUptoRow, standIns := [], harness := (true, "43cc17ce3d9c93067813fe4555841ba15cbeaab0825b62d4632b24bbe5d12cbc"), looks := true }, kinds := [], alts := [], laidByText := true, laidKinds := [.data, .data, .data, .data, .sentinel, .sentinel, .data, .data, .data, .sentinel, .sentinel, .pinned, .pinned], laidTests := true, laidLooks := .later }
def FnExactLifeUnderUptoCardSaid : Prop := Claim7.holds Tryz.pinned (.plain (OpenSpec.upto fnExactLifeUnderSpec)) fnExactLifeUnderUptoCard

/-- THE SECOND FORM's CARD OF 'laws.FnExactPassHops'. -/
def fnExactPassHopsUptoCard : Claim7 := { stood := { row := fnExactPassHopsUptoRow, standIns := [], harness := (true, "43cc17ce3d9c93067813fe4555841ba15cbeaab0825b62d4632b24bbe5d12cbc"), looks := true }, kinds := [], alts := [], laidByText := true, laidKinds := [.data, .data, .data, .sentinel, .sentinel, .data, .data, .data], laidTests := true, laidLooks := .later }
def FnExactPassHopsUptoCardSaid : Prop := Claim7.holds Tryz.pinned (.plain (OpenSpec.upto fnExactPassHopsSpec)) fnExactPassHopsUptoCard
end Rows
end Go.Proofs.YtidmppphlcfpjaaGreatDoor
