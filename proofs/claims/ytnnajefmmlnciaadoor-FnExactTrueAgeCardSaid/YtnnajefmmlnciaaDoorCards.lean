/-
  DERIVED. GIVEN WITH THE SEED: THE CARDS: each row of YtnnajefmmlnciaaDoorRows.lean that lists a variable, with what it lists TIED to the program's text (the seventh form; the later family's looks); each row that meets fmt, with fmt's text TOLD by the authors' own Lean function (tested against real Go, not proved from fmt's source: count such statements apart). THE CARD IS WHAT COUNTS. Prove the row's statement (the work); the ties are given (YtnnajefmmlnciaaDoorTie.lean); close each card by the builder's one call (the guide's Derived/Test/ToyasCard.lean, 'card_holds'). Laid BY PROGRAM, IN A SANDBOX (cutbox-door.mjs). By AI agents, Wed Nov 11 2026. No macro, syntax, notation, axiom, sorry.
-/
import Derived.Test.YtnnajefmmlnciaaDoorRows
import GoSem.ClaimSeven
namespace Go.Proofs.YtnnajefmmlnciaaDoor
namespace Rows

/-- THE TIED CARD OF 'laws.FnExactTrueAge'. -/
def fnExactTrueAgeCard : Claim7 := { stood := { row := fnExactTrueAgeRow, standIns := [], harness := (true, "958eb890c8b32e297da9e27e5094afd224ab9dd188f1e0ad67b667076c53d722"), looks := false }, kinds := [], alts := [], laidByText := true, laidKinds := [.data, .data, .data, .data, .data, .data], laidTests := true, laidLooks := .later }
def FnExactTrueAgeCardSaid : Prop := Claim7.holds Tryd.pinned (.plain (OpenSpec.ofChange fnExactTrueAgeSpec)) fnExactTrueAgeCard

/-- THE SECOND FORM's CARD OF 'laws.FnExactTrueAge'. -/
def fnExactTrueAgeUptoCard : Claim7 := { stood := { row := fnExactTrueAgeUptoRow, standIns := [], harness := (true, "958eb890c8b32e297da9e27e5094afd224ab9dd188f1e0ad67b667076c53d722"), looks := false }, kinds := [], alts := [], laidByText := true, laidKinds := [.data, .data, .data, .data, .data, .data], laidTests := true, laidLooks := .later }
def FnExactTrueAgeUptoCardSaid : Prop := Claim7.holds Tryd.pinned (.plain (OpenSpec.upto fnExactTrueAgeSpec)) fnExactTrueAgeUptoCard
end Rows
end Go.Proofs.YtnnajefmmlnciaaDoor
