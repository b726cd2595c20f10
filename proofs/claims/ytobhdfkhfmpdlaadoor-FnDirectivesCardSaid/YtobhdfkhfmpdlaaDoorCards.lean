/-
  DERIVED. GIVEN WITH THE SEED: THE CARDS: each row of YtobhdfkhfmpdlaaDoorRows.lean that lists a variable, with what it lists TIED to the program's text (the seventh form; the later family's looks); each row that meets fmt, with fmt's text TOLD by the authors' own Lean function (tested against real Go, not proved from fmt's source: count such statements apart). THE CARD IS WHAT COUNTS. Prove the row's statement (the work); the ties are given (YtobhdfkhfmpdlaaDoorTie.lean); close each card by the builder's one call (the guide's Derived/Test/ToyasCard.lean, 'card_holds'). Laid BY PROGRAM, IN A SANDBOX (cutbox-door.mjs). By AI agents, Wed Nov 11 2026. No macro, syntax, notation, axiom, sorry.
-/
import Derived.Test.YtobhdfkhfmpdlaaDoorRows
import GoSem.ClaimSeven
namespace Go.Proofs.YtobhdfkhfmpdlaaDoor
namespace Rows

/-- THE TIED CARD OF 'laws.FnDirectives'. -/
def fnDirectivesCard : Claim7 := { stood := { row := fnDirectivesRow, standIns := [], harness := (true, "15e80dca839e7e423ff68eb188c102fcbef9d94331afc2e9deeaaad82ebfbaa4"), looks := false }, kinds := [], alts := [], laidByText := true, laidKinds := [.data, .sentinel, .sentinel, .pinned], laidTests := true, laidLooks := .later }
def FnDirectivesCardSaid : Prop := Claim7.holds Tryd.pinned (.plain (OpenSpec.ofChange fnDirectivesSpec)) fnDirectivesCard

/-- THE TIED CARD OF 'laws.FnFields'. -/
def fnFieldsCard : Claim7 := { stood := { row := fnFieldsRow, standIns := [], harness := (true, "15e80dca839e7e423ff68eb188c102fcbef9d94331afc2e9deeaaad82ebfbaa4"), looks := false }, kinds := [], alts := [], laidByText := true, laidKinds := [.data, .pinned], laidTests := true, laidLooks := .later }
def FnFieldsCardSaid : Prop := Claim7.holds Tryd.pinned (.plain (OpenSpec.ofChange fnFieldsSpec)) fnFieldsCard

/-- THE SECOND FORM's CARD OF 'laws.FnDirectives'. -/
def fnDirectivesUptoCard : Claim7 := { stood := { row := fnDirectivesUptoRow, standIns := [], harness := (true, "15e80dca839e7e423ff68eb188c102fcbef9d94331afc2e9deeaaad82ebfbaa4"), looks := false }, kinds := [], alts := [], laidByText := true, laidKinds := [.data, .sentinel, .sentinel, .pinned], laidTests := true, laidLooks := .later }
def FnDirectivesUptoCardSaid : Prop := Claim7.holds Tryd.pinned (.plain (OpenSpec.upto fnDirectivesSpec)) fnDirectivesUptoCard

/-- THE SECOND FORM's CARD OF 'laws.FnFields'. -/
def fnFieldsUptoCard : Claim7 := { stood := { row := fnFieldsUptoRow, standIns := [], harness := (true, "15e80dca839e7e423ff68eb188c102fcbef9d94331afc2e9deeaaad82ebfbaa4"), looks := false }, kinds := [], alts := [], laidByText := true, laidKinds := [.data, .pinned], laidTests := true, laidLooks := .later }
def FnFieldsUptoCardSaid : Prop := Claim7.holds Tryd.pinned (.plain (OpenSpec.upto fnFieldsSpec)) fnFieldsUptoCard
end Rows
end Go.Proofs.YtobhdfkhfmpdlaaDoor
