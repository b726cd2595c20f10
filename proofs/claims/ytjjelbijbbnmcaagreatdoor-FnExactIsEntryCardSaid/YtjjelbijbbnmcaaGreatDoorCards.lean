/-
  DERIVED. GIVEN WITH THE SEED: THE CARDS: each row of YtjjelbijbbnmcaaGreatDoorRows.lean that lists a variable, with what it lists TIED to the program's text (the seventh form; the later family's looks); each row that meets fmt, with fmt's text TOLD by the authors' own Lean function (tested against real Go, not proved from fmt's source: count such statements apart). THE CARD IS WHAT COUNTS. Prove the row's statement (the work); the ties are given (YtjjelbijbbnmcaaGreatDoorTie.lean); close each card by the builder's one call (the guide's Derived/Test/ToyasCard.lean, 'card_holds'). Laid BY PROGRAM, IN A SANDBOX (cutbox-door.mjs). By AI agents, Wed Nov 11 2026. No macro, syntax, notation, axiom, sorry.
-/
import Derived.Test.YtjjelbijbbnmcaaGreatDoorRows
import GoSem.ClaimSeven
namespace Go.Proofs.YtjjelbijbbnmcaaGreatDoor
namespace Rows

/-- THE TIED CARD OF 'laws.FnExactIsEntry'. -/
def fnExactIsEntryCard : Claim7 := { stood := { row := fnExactIsEntryRow, standIns := [], harness := (true, "8a976b22107a3af4966610a13adab14f6b75b0a344171f5e950c1d390ada49a9"), looks := false }, kinds := [], alts := [], laidByText := true, laidKinds := [.data, .data, .data, .data, .data, .data, .data, .pinned], laidTests := true, laidLooks := .later }
def FnExactIsEntryCardSaid : Prop := Claim7.holds Tryz.pinned (.plain (OpenSpec.ofChange fnExactIsEntrySpec)) fnExactIsEntryCard

/-- THE SECOND FORM's CARD OF 'laws.FnExactIsEntry'. -/
def fnExactIsEntryUptoCard : Claim7 := { stood := { row := fnExactIsEntryUptoRow, standIns := [], harness := (true, "8a976b22107a3af4966610a13adab14f6b75b0a344171f5e950c1d390ada49a9"), looks := false }, kinds := [], alts := [], laidByText := true, laidKinds := [.data, .data, .data, .data, .data, .data, .data, .pinned], laidTests := true, laidLooks := .later }
def FnExactIsEntryUptoCardSaid : Prop := Claim7.holds Tryz.pinned (.plain (OpenSpec.upto fnExactIsEntrySpec)) fnExactIsEntryUptoCard
end Rows
end Go.Proofs.YtjjelbijbbnmcaaGreatDoor
