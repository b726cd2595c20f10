/-
  DERIVED. GIVEN WITH THE SEED: THE CARDS: each row of YtindnhmigljkaaaDoorRows.lean that lists a variable, with what it lists TIED to the program's text (the seventh form; the later family's looks); each row that meets fmt, with fmt's text TOLD by the authors' own Lean function (tested against real Go, not proved from fmt's source: count such statements apart). THE CARD IS WHAT COUNTS. Prove the row's statement (the work); the ties are given (YtindnhmigljkaaaDoorTie.lean); close each card by the builder's one call (the guide's Derived/Test/ToyasCard.lean, 'card_holds'). Laid BY PROGRAM, IN A SANDBOX (cutbox-door.mjs). By AI agents, Wed Nov 11 2026. No macro, syntax, notation, axiom, sorry.
-/
import Derived.Test.YtindnhmigljkaaaDoorRows
import GoSem.ClaimSeven
namespace Go.Proofs.YtindnhmigljkaaaDoor
namespace Rows

/-- THE TIED CARD OF 'laws.FnExactParseQualities'. -/
def fnExactParseQualitiesCard : Claim7 := { stood := { row := fnExactParseQualitiesRow, standIns := [], harness := (true, "a7392f302b8106001d24bbec6892da77920c8bdeecf87ee0945b2e4b3240b0d0"), looks := true }, kinds := [], alts := [], laidByText := true, laidKinds := [.data, .data, .data, .data, .sentinel, .sentinel, .pinned], laidTests := true, laidLooks := .later }
def FnExactParseQualitiesCardSaid : Prop := Claim7.holds Tryd.pinned (.plain (OpenSpec.ofChange fnExactParseQualitiesSpec)) fnExactParseQualitiesCard

/-- THE TIED CARD OF 'laws.FnExactChooseName'. -/
def fnExactChooseNameCard : Claim7 := { stood := { row := fnExactChooseNameRow, standIns := [], harness := (true, "a7392f302b8106001d24bbec6892da77920c8bdeecf87ee0945b2e4b3240b0d0"), looks := true }, kinds := [], alts := [], laidByText := true, laidKinds := [.data, .data, .data, .data, .sentinel, .sentinel, .pinned], laidTests := true, laidLooks := .later }
def FnExactChooseNameCardSaid : Prop := Claim7.holds Tryd.pinned (.plain (OpenSpec.ofChange fnExactChooseNameSpec)) fnExactChooseNameCard

/-- THE SECOND FORM's CARD OF 'laws.FnExactParseQualities'. -/
def fnExactParseQualitiesUptoCard : Claim7 := { stood := { row := fnExactParseQualitiesUptoRow, standIns := [], harness := (true, "a7392f302b8106001d24bbec6892da77920c8bdeecf87ee0945b2e4b3240b0d0"), looks := true }, kinds := [], alts := [], laidByText := true, laidKinds := [.data, .data, .data, .data, .sentinel, .sentinel, .pinned], laidTests := true, laidLooks := .later }
def FnExactParseQualitiesUptoCardSaid : Prop := Claim7.holds Tryd.pinned (.plain (OpenSpec.upto fnExactParseQualitiesSpec)) fnExactParseQualitiesUptoCard

/-- THE SECOND FORM's CARD OF 'laws.FnExactChooseName'. -/
def fnExactChooseNameUptoCard : Claim7 := { stood := { row := fnExactChooseNameUptoRow, standIns := [], harness := (true, "a7392f302b8106001d24bbec6892da77920c8bdeecf87ee0945b2e4b3240b0d0"), looks := true }, kinds := [], alts := [], laidByText := true, laidKinds := [.data, .data, .data, .data, .sentinel, .sentinel, .pinned], laidTests := true, laidLooks := .later }
def FnExactChooseNameUptoCardSaid : Prop := Claim7.holds Tryd.pinned (.plain (OpenSpec.upto fnExactChooseNameSpec)) fnExactChooseNameUptoCard
end Rows
end Go.Proofs.YtindnhmigljkaaaDoor
