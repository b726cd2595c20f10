/-
  DERIVED. GIVEN WITH THE SEED: THE CARDS: each row of YtppdcboobpbajaaDoorRows.lean that lists a variable, with what it lists TIED to the program's text (the seventh form; the later family's looks); each row that meets fmt, with fmt's text TOLD by the authors' own Lean function (tested against real Go, not proved from fmt's source: count such statements apart). THE CARD IS WHAT COUNTS. Prove the row's statement (the work); the ties are given (YtppdcboobpbajaaDoorTie.lean); close each card by the builder's one call (the guide's Derived/Test/ToyasCard.lean, 'card_holds'). Laid BY PROGRAM, IN A SANDBOX (cutbox-door.mjs). By AI agents, Wed Nov 11 2026. No macro, syntax, notation, axiom, sorry.
-/
import Derived.Test.YtppdcboobpbajaaDoorRows
import GoSem.ClaimSeven
namespace Go.Proofs.YtppdcboobpbajaaDoor
namespace Rows

/-- THE TIED CARD OF 'laws.FnQualities'. -/
def fnQualitiesCard : Claim7 := { stood := { row := fnQualitiesRow, standIns := [], harness := (true, "26d7953f323fe0799c80e8d8235d11e68bf878cf95d798579b21bd889e055ba5"), looks := true }, kinds := [], alts := [], laidByText := true, laidKinds := [.data, .data, .data, .data, .sentinel, .sentinel, .pinned], laidTests := true, laidLooks := .later }
def FnQualitiesCardSaid : Prop := Claim7.holds Tryd.pinned (.plain (OpenSpec.ofChange fnQualitiesSpec)) fnQualitiesCard

/-- THE SECOND FORM's CARD OF 'laws.FnQualities'. -/
def fnQualitiesUptoCard : Claim7 := { stood := { row := fnQualitiesUptoRow, standIns := [], harness := (true, "26d7953f323fe0799c80e8d8235d11e68bf878cf95d798579b21bd889e055ba5"), looks := true }, kinds := [], alts := [], laidByText := true, laidKinds := [.data, .data, .data, .data, .sentinel, .sentinel, .pinned], laidTests := true, laidLooks := .later }
def FnQualitiesUptoCardSaid : Prop := Claim7.holds Tryd.pinned (.plain (OpenSpec.upto fnQualitiesSpec)) fnQualitiesUptoCard
end Rows
end Go.Proofs.YtppdcboobpbajaaDoor
