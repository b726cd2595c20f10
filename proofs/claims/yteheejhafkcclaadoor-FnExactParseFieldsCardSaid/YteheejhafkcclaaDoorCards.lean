/-
  DERIVED. GIVEN WITH THE SEED: THE CARDS: each row of YteheejhafkcclaaDoorRows.lean that lists a variable, with what it lists TIED to the program's text (the seventh form; the later family's looks); each row that meets fmt, with fmt's text TOLD by the authors' own Lean function (tested against real Go, not proved from fmt's source: count such statements apart). THE CARD IS WHAT COUNTS. Prove the row's statement (the work); the ties are given (YteheejhafkcclaaDoorTie.lean); close each card by the builder's one call (the guide's Derived/Test/ToyasCard.lean, 'card_holds'). Laid BY PROGRAM, IN A SANDBOX (cutbox-door.mjs). By AI agents, Wed Nov 11 2026. No macro, syntax, notation, axiom, sorry.
-/
import Derived.Test.YteheejhafkcclaaDoorRows
import GoSem.ClaimSeven
namespace Go.Proofs.YteheejhafkcclaaDoor
namespace Rows

/-- THE TIED CARD OF 'laws.FnExactParseFields'. -/
def fnExactParseFieldsCard : Claim7 := { stood := { row := fnExactParseFieldsRow, standIns := [], harness := (true, "bdf2f56cd1c6630393cc2d2e460ff4d2651485f9827af3d2b34ff852878b6bec"), looks := false }, kinds := [], alts := [], laidByText := true, laidKinds := [.data, .pinned], laidTests := true, laidLooks := .later }
def FnExactParseFieldsCardSaid : Prop := Claim7.holds Tryd.pinned (.plain (OpenSpec.ofChange fnExactParseFieldsSpec)) fnExactParseFieldsCard

/-- THE SECOND FORM's CARD OF 'laws.FnExactParseFields'. -/
def fnExactParseFieldsUptoCard : Claim7 := { stood := { row := fnExactParseFieldsUptoRow, standIns := [], harness := (true, "bdf2f56cd1c6630393cc2d2e460ff4d2651485f9827af3d2b34ff852878b6bec"), looks := false }, kinds := [], alts := [], laidByText := true, laidKinds := [.data, .pinned], laidTests := true, laidLooks := .later }
def FnExactParseFieldsUptoCardSaid : Prop := Claim7.holds Tryd.pinned (.plain (OpenSpec.upto fnExactParseFieldsSpec)) fnExactParseFieldsUptoCard
end Rows
end Go.Proofs.YteheejhafkcclaaDoor
