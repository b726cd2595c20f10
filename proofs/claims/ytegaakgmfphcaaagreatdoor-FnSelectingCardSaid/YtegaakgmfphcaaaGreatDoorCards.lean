/-
  DERIVED. GIVEN WITH THE SEED: THE CARDS: each row of YtegaakgmfphcaaaGreatDoorRows.lean that lists a variable, with what it lists TIED to the program's text (the seventh form; the later family's looks); each row that meets fmt, with fmt's text TOLD by the authors' own Lean function (tested against real Go, not proved from fmt's source: count such statements apart). THE CARD IS WHAT COUNTS. Prove the row's statement (the work); the ties are given (YtegaakgmfphcaaaGreatDoorTie.lean); close each card by the builder's one call (the guide's Derived/Test/ToyasCard.lean, 'card_holds'). Laid BY PROGRAM, IN A SANDBOX (cutbox-door.mjs). By AI agents, Wed Nov 11 2026. No macro, syntax, notation, axiom, sorry.
-/
import Derived.Test.YtegaakgmfphcaaaGreatDoorRows
import GoSem.ClaimSeven
namespace Go.Proofs.YtegaakgmfphcaaaGreatDoor
namespace Rows

/-- THE TIED CARD OF 'laws.FnSelecting'. -/
def fnSelectingCard : Claim7 := { stood := { row := fnSelectingRow, standIns := [], harness := (true, "4af68f261597c2a5acf92763e186cccf433f1bd7572d8adcfed38e2c97c2cf0d"), looks := true }, kinds := [], alts := [], laidByText := true, laidKinds := [.data, .data, .data, .data, .sentinel, .sentinel, .pinned], laidTests := true, laidLooks := .later }
def FnSelectingCardSaid : Prop := Claim7.holds Tryz.pinned (.plain (OpenSpec.ofChange fnSelectingSpec)) fnSelectingCard

/-- THE TIED CARD OF 'laws.FnKeys'. -/
def fnKeysCard : Claim7 := { stood := { row := fnKeysRow, standIns := [], harness := (true, "4af68f261597c2a5acf92763e186cccf433f1bd7572d8adcfed38e2c97c2cf0d"), looks := true }, kinds := [], alts := [], laidByText := true, laidKinds := [.data, .data, .data, .data, .sentinel, .sentinel, .pinned, .pinned], laidTests := true, laidLooks := .later }
def FnKeysCardSaid : Prop := Claim7.holds Tryz.pinned (.plain (OpenSpec.ofChange fnKeysSpec)) fnKeysCard

/-- THE SECOND FORM's CARD OF 'laws.FnSelecting'. -/
def fnSelectingUptoCard : Claim7 := { stood := { row := fnSelectingUptoRow, standIns := [], harness := (true, "4af68f261597c2a5acf92763e186cccf433f1bd7572d8adcfed38e2c97c2cf0d"), looks := true }, kinds := [], alts := [], laidByText := true, laidKinds := [.data, .data, .data, .data, .sentinel, .sentinel, .pinned], laidTests := true, laidLooks := .later }
def FnSelectingUptoCardSaid : Prop := Claim7.holds Tryz.pinned (.plain (OpenSpec.upto fnSelectingSpec)) fnSelectingUptoCard

/-- THE SECOND FORM's CARD OF 'laws.FnKeys'. -/
def fnKeysUptoCard : Claim7 := { stood := { row := fnKeysUptoRow, standIns := [], harness := (true, "4af68f261597c2a5acf92763e186cccf433f1bd7572d8adcfed38e2c97c2cf0d"), looks := true }, kinds := [], alts := [], laidByText := true, laidKinds := [.data, .data, .data, .data, .sentinel, .sentinel, .pinned, .pinned], laidTests := true, laidLooks := .later }
def FnKeysUptoCardSaid : Prop := Claim7.holds Tryz.pinned (.plain (OpenSpec.upto fnKeysSpec)) fnKeysUptoCard
end Rows
end Go.Proofs.YtegaakgmfphcaaaGreatDoor
