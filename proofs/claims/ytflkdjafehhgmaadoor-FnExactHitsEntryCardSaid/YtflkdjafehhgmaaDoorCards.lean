/-
  DERIVED. GIVEN WITH THE SEED: THE CARDS: each row of YtflkdjafehhgmaaDoorRows.lean that lists a variable, with what it lists TIED to the program's text (the seventh form; the later family's looks); each row that meets fmt, with fmt's text TOLD by the authors' own Lean function (tested against real Go, not proved from fmt's source: count such statements apart). THE CARD IS WHAT COUNTS. Prove the row's statement (the work); the ties are given (YtflkdjafehhgmaaDoorTie.lean); close each card by the builder's one call (the guide's Derived/Test/ToyasCard.lean, 'card_holds'). Laid BY PROGRAM, IN A SANDBOX (cutbox-door.mjs). By AI agents, Wed Nov 11 2026. No macro, syntax, notation, axiom, sorry.
-/
import Derived.Test.YtflkdjafehhgmaaDoorRows
import GoSem.ClaimSeven
namespace Go.Proofs.YtflkdjafehhgmaaDoor
namespace Rows

/-- THE TIED CARD OF 'laws.FnExactHitsEntry'. -/
def fnExactHitsEntryCard : Claim7 := { stood := { row := fnExactHitsEntryRow, standIns := [], harness := (true, "8847b34780fd5ef37aa8d0b80444a9e93f6a1a5d0d45bcefb331ff5e5a8a2d8c"), looks := false }, kinds := [], alts := [], laidByText := true, laidKinds := [.data, .pinned], laidTests := true, laidLooks := .later }
def FnExactHitsEntryCardSaid : Prop := Claim7.holds Tryd.pinned (.plain (OpenSpec.ofChange fnExactHitsEntrySpec)) fnExactHitsEntryCard

/-- THE SECOND FORM's CARD OF 'laws.FnExactHitsEntry'. -/
def fnExactHitsEntryUptoCard : Claim7 := { stood := { row := fnExactHitsEntryUptoRow, standIns := [], harness := (true, "8847b34780fd5ef37aa8d0b80444a9e93f6a1a5d0d45bcefb331ff5e5a8a2d8c"), looks := false }, kinds := [], alts := [], laidByText := true, laidKinds := [.data, .pinned], laidTests := true, laidLooks := .later }
def FnExactHitsEntryUptoCardSaid : Prop := Claim7.holds Tryd.pinned (.plain (OpenSpec.upto fnExactHitsEntrySpec)) fnExactHitsEntryUptoCard
end Rows
end Go.Proofs.YtflkdjafehhgmaaDoor
