/-
  DERIVED. GIVEN WITH THE SEED: THE CARDS: each row of YtjeihicjfgimdaaGreatDoorRows.lean that lists a variable, with what it lists TIED to the program's text (the seventh form; the later family's looks); each row that meets fmt, with fmt's text TOLD by the authors' own Lean function (tested against real Go, not proved from fmt's source: count such statements apart). THE CARD IS WHAT COUNTS. Prove the row's statement (the work); the ties are given (YtjeihicjfgimdaaGreatDoorTie.lean); close each card by the builder's one call (the guide's Derived/Test/ToyasCard.lean, 'card_holds'). Laid BY PROGRAM, IN A SANDBOX (cutbox-door.mjs). By AI agents, Wed Nov 11 2026. No macro, syntax, notation, axiom, sorry.
-/
import Derived.Test.YtjeihicjfgimdaaGreatDoorRows
import GoSem.ClaimSeven
namespace Go.Proofs.YtjeihicjfgimdaaGreatDoor
namespace Rows

/-- THE TIED CARD OF 'laws.FnExactIsAsked'. -/
def fnExactIsAskedCard : Claim7 := { stood := { row := fnExactIsAskedRow, standIns := [], harness := (true, "7ca8d29d7e76f7ef74b605294a95cb98b48e1d34bbb655661838787649a2c8cb"), looks := true }, kinds := [], alts := [], laidByText := true, laidKinds := [.data, .data, .data, .data, .sentinel, .sentinel, .data, .data, .data, .sentinel, .sentinel, .pinned], laidTests := true, laidLooks := .later }
def FnExactIsAskedCardSaid : Prop := Claim7.holds Tryz.pinned (.plain (OpenSpec.ofChange fnExactIsAskedSpec)) fnExactIsAskedCard

/-- THE TIED CARD OF 'laws.FnExactIsBound'. -/
def fnExactIsBoundCard : Claim7 := { stood := { row := fnExactIsBoundRow, standIns := [], harness := (true, "7ca8d29d7e76f7ef74b605294a95cb98b48e1d34bbb655661838787649a2c8cb"), looks := true }, kinds := [], alts := [], laidByText := true, laidKinds := [.data, .data, .data, .data, .sentinel, .sentinel, .data, .data, .data, .sentinel, .sentinel, .pinned], laidTests := true, laidLooks := .later }
def FnExactIsBoundCardSaid : Prop := Claim7.holds Tryz.pinned (.plain (OpenSpec.ofChange fnExactIsBoundSpec)) fnExactIsBoundCard

/-- THE TIED CARD OF 'laws.FnExactParseRequest'. -/
def fnExactParseRequestCard : Claim7 := { stood := { row := fnExactParseRequestRow, standIns := [], harness := (true, "7ca8d29d7e76f7ef74b605294a95cb98b48e1d34bbb655661838787649a2c8cb"), looks := true }, kinds := [], alts := [], laidByText := true, laidKinds := [.data, .pinned, .pinned], laidTests := true, laidLooks := .later }
def FnExactParseRequestCardSaid : Prop := Claim7.holds Tryz.pinned (.plain (OpenSpec.ofChange fnExactParseRequestSpec)) fnExactParseRequestCard

/-- THE TIED CARD OF 'laws.FnExactParseResponse'. -/
def fnExactParseResponseCard : Claim7 := { stood := { row := fnExactParseResponseRow, standIns := [], harness := (true, "7ca8d29d7e76f7ef74b605294a95cb98b48e1d34bbb655661838787649a2c8cb"), looks := true }, kinds := [], alts := [], laidByText := true, laidKinds := [.data, .data, .data, .data, .sentinel, .sentinel, .pinned], laidTests := true, laidLooks := .later }
def FnExactParseResponseCardSaid : Prop := Claim7.holds Tryz.pinned (.plain (OpenSpec.ofChange fnExactParseResponseSpec)) fnExactParseResponseCard

/-- THE SECOND FORM's CARD OF 'laws.FnExactIsAsked'. -/
def fnExactIsAskedUptoCard : Claim7 := { stood := { row := fnExactIsAskedUptoRow, standIns := [], harness := (true, "7ca8d29d7e76f7ef74b605294a95cb98b48e1d34bbb655661838787649a2c8cb"), looks := true }, kinds := [], alts := [], laidByText := true, laidKinds := [.data, .data, .data, .data, .sentinel, .sentinel, .data, .data, .data, .sentinel, .sentinel, .pinned], laidTests := true, laidLooks := .later }
def FnExactIsAskedUptoCardSaid : Prop := Claim7.holds Tryz.pinned (.plain (OpenSpec.upto fnExactIsAskedSpec)) fnExactIsAskedUptoCard

/-- THE SECOND FORM's CARD OF 'laws.FnExactIsBound'. -/
def fnExactIsBoundUptoCard : Claim7 := { stood := { row := fnExactIsBoundUptoRow, standIns := [], harness := (true, "7ca8d29d7e76f7ef74b605294a95cb98b48e1d34bbb655661838787649a2c8cb"), looks := true }, kinds := [], alts := [], laidByText := true, laidKinds := [.data, .data, .data, .data, .sentinel, .sentinel, .data, .data, .data, .sentinel, .sentinel, .pinned], laidTests := true, laidLooks := .later }
def FnExactIsBoundUptoCardSaid : Prop := Claim7.holds Tryz.pinned (.plain (OpenSpec.upto fnExactIsBoundSpec)) fnExactIsBoundUptoCard

/-- THE SECOND FORM's CARD OF 'laws.FnExactParseRequest'. -/
def fnExactParseRequestUptoCard : Claim7 := { stood := { row := fnExactParseRequestUptoRow, standIns := [], harness := (true, "7ca8d29d7e76f7ef74b605294a95cb98b48e1d34bbb655661838787649a2c8cb"), looks := true }, kinds := [], alts := [], laidByText := true, laidKinds := [.data, .pinned, .pinned], laidTests := true, laidLooks := .later }
def FnExactParseRequestUptoCardSaid : Prop := Claim7.holds Tryz.pinned (.plain (OpenSpec.upto fnExactParseRequestSpec)) fnExactParseRequestUptoCard

/-- THE SECOND FORM's CARD OF 'laws.FnExactParseResponse'. -/
def fnExactParseResponseUptoCard : Claim7 := { stood := { row := fnExactParseResponseUptoRow, standIns := [], harness := (true, "7ca8d29d7e76f7ef74b605294a95cb98b48e1d34bbb655661838787649a2c8cb"), looks := true }, kinds := [], alts := [], laidByText := true, laidKinds := [.data, .data, .data, .data, .sentinel, .sentinel, .pinned], laidTests := true, laidLooks := .later }
def FnExactParseResponseUptoCardSaid : Prop := Claim7.holds Tryz.pinned (.plain (OpenSpec.upto fnExactParseResponseSpec)) fnExactParseResponseUptoCard
end Rows
end Go.Proofs.YtjeihicjfgimdaaGreatDoor
