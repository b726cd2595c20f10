/-
  DERIVED. GIVEN WITH THE SEED: THE CARDS: each row of YtindnhmigljkaaaGreatDoorRows.lean that lists a variable, with what it lists TIED to the program's text (the seventh form; the later family's looks); each row that meets fmt, with fmt's text TOLD by the authors' own Lean function (tested against real Go, not proved from fmt's source: count such statements apart). THE CARD IS WHAT COUNTS. Prove the row's statement (the work); the ties are given (YtindnhmigljkaaaGreatDoorTie.lean); close each card by the builder's one call (the guide's Derived/Test/ToyasCard.lean, 'card_holds'). Laid BY PROGRAM, IN A SANDBOX (cutbox-door.mjs). By AI agents, Wed Nov 11 2026. No macro, syntax, notation, axiom, sorry.
-/
import Derived.Test.YtindnhmigljkaaaGreatDoorRows
import GoSem.ClaimSeven
namespace Go.Proofs.YtindnhmigljkaaaGreatDoor
namespace Rows

/-- THE TIED CARD OF 'laws.FnExactRuleFor'. -/
def fnExactRuleForCard : Claim7 := { stood := { row := fnExactRuleForRow, standIns := [], harness := (true, "864b5ae500b63e1d36a2301ee85b6e044c197bee8503c593efcd12921bd3d666"), looks := true }, kinds := [], alts := [], laidByText := true, laidKinds := [.data, .data, .data, .data, .sentinel, .sentinel, .pinned, .pinned], laidTests := true, laidLooks := .later }
def FnExactRuleForCardSaid : Prop := Claim7.holds Tryz.pinned (.plain (OpenSpec.ofChange fnExactRuleForSpec)) fnExactRuleForCard

/-- THE TIED CARD OF 'laws.FnExactLifeUnder'. -/
def fnExactLifeUnderCard : Claim7 := { stood := { row := fnExactLifeUnderRow, standIns := [], harness := (true, "864b5ae500b63e1d36a2301ee85b6e044c197bee8503c593efcd12921bd3d666"), looks := true }, kinds := [], alts := [], laidByText := true, laidKinds := [.data, .data, .data, .data, .sentinel, .sentinel, .data, .data, .data, .sentinel, .sentinel, .pinned, .pinned], laidTests := true, laidLooks := .later }
def FnExactLifeUnderCardSaid : Prop := Claim7.holds Tryz.pinned (.plain (OpenSpec.ofChange fnExactLifeUnderSpec)) fnExactLifeUnderCard

/-- THE SECOND FORM's CARD OF 'laws.FnExactRuleFor'. -/
def fnExactRuleForUptoCard : Claim7 := { stood := { row := fnExactRuleForUptoRow, standIns := [], harness := (true, "864b5ae500b63e1d36a2301ee85b6e044c197bee8503c593efcd12921bd3d666"), looks := true }, kinds := [], alts := [], laidByText := true, laidKinds := [.data, .data, .data, .data, .sentinel, .sentinel, .pinned, .pinned], laidTests := true, laidLooks := .later }
def FnExactRuleForUptoCardSaid : Prop := Claim7.holds Tryz.pinned (.plain (OpenSpec.upto fnExactRuleForSpec)) fnExactRuleForUptoCard

/-- THE SECOND FORM's CARD OF 'laws.FnExactLifeUnder'. -/
def fnExactLifeUnderUptoCard : Claim7 := { stood := { row := fnExactLifeUnderUptoRow, standIns := [], harness := (true, "864b5ae500b63e1d36a2301ee85b6e044c197bee8503c593efcd12921bd3d666"), looks := true }, kinds := [], alts := [], laidByText := true, laidKinds := [.data, .data, .data, .data, .sentinel, .sentinel, .data, .data, .data, .sentinel, .sentinel, .pinned, .pinned], laidTests := true, laidLooks := .later }
def FnExactLifeUnderUptoCardSaid : Prop := Claim7.holds Tryz.pinned (.plain (OpenSpec.upto fnExactLifeUnderSpec)) fnExactLifeUnderUptoCard
end Rows
end Go.Proofs.YtindnhmigljkaaaGreatDoor
