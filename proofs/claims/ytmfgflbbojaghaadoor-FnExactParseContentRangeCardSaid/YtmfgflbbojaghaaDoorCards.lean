/-
  DERIVED. GIVEN WITH THE SEED: THE CARDS: each row of YtmfgflbbojaghaaDoorRows.lean that lists a variable, with what it lists TIED to the program's text (the seventh form; the later family's looks); each row that meets fmt, with fmt's text TOLD by the authors' own Lean function (tested against real Go, not proved from fmt's source: count such statements apart). THE CARD IS WHAT COUNTS. Prove the row's statement (the work); the ties are given (YtmfgflbbojaghaaDoorTie.lean); close each card by the builder's one call (the guide's Derived/Test/ToyasCard.lean, 'card_holds'). Laid BY PROGRAM, IN A SANDBOX (cutbox-door.mjs). By AI agents, Wed Nov 11 2026. No macro, syntax, notation, axiom, sorry.
-/
import Derived.Test.YtmfgflbbojaghaaDoorRows
import GoSem.ClaimSeven
namespace Go.Proofs.YtmfgflbbojaghaaDoor
namespace Rows

/-- THE TIED CARD OF 'laws.FnExactParseContentRange'. -/
def fnExactParseContentRangeCard : Claim7 := { stood := { row := fnExactParseContentRangeRow, standIns := [], harness := (true, "23536567df65d77ddcb3bdcec372547e8b59acb38eb4b1f708b23e42f226fa47"), looks := true }, kinds := [], alts := [], laidByText := true, laidKinds := [.data, .data, .data, .sentinel, .sentinel], laidTests := true, laidLooks := .later }
def FnExactParseContentRangeCardSaid : Prop := Claim7.holds Tryd.pinned (.plain (OpenSpec.ofChange fnExactParseContentRangeSpec)) fnExactParseContentRangeCard

/-- THE SECOND FORM's CARD OF 'laws.FnExactParseContentRange'. -/
def fnExactParseContentRangeUptoCard : Claim7 := { stood := { row := fnExactParseContentRangeUptoRow, standIns := [], harness := (true, "23536567df65d77ddcb3bdcec372547e8b59acb38eb4b1f708b23e42f226fa47"), looks := true }, kinds := [], alts := [], laidByText := true, laidKinds := [.data, .data, .data, .sentinel, .sentinel], laidTests := true, laidLooks := .later }
def FnExactParseContentRangeUptoCardSaid : Prop := Claim7.holds Tryd.pinned (.plain (OpenSpec.upto fnExactParseContentRangeSpec)) fnExactParseContentRangeUptoCard
end Rows
end Go.Proofs.YtmfgflbbojaghaaDoor
