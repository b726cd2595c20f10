/-
  DERIVED. GIVEN WITH THE SEED: THE CARDS: each row of YtmdmckhlfcogfaaDoorRows.lean that lists a variable, with what it lists TIED to the program's text (the seventh form; the later family's looks); each row that meets fmt, with fmt's text TOLD by the authors' own Lean function (tested against real Go, not proved from fmt's source: count such statements apart). THE CARD IS WHAT COUNTS. Prove the row's statement (the work); the ties are given (YtmdmckhlfcogfaaDoorTie.lean); close each card by the builder's one call (the guide's Derived/Test/ToyasCard.lean, 'card_holds'). Laid BY PROGRAM, IN A SANDBOX (cutbox-door.mjs). By AI agents, Wed Nov 11 2026. No macro, syntax, notation, axiom, sorry.
-/
import Derived.Test.YtmdmckhlfcogfaaDoorRows
import GoSem.ClaimSeven
namespace Go.Proofs.YtmdmckhlfcogfaaDoor
namespace Rows

/-- THE TIED CARD OF 'laws.FnExactFormatRanges'. -/
def fnExactFormatRangesCard : Claim7 := { stood := { row := fnExactFormatRangesRow, standIns := [], harness := (true, "c468fb4784d406fceff5d446ddb6aa5b6aead6053eb47cda29b822005d543c89"), looks := true }, kinds := [], alts := [], laidByText := true, laidKinds := [.data, .data, .data], laidTests := true, laidLooks := .later }
def FnExactFormatRangesCardSaid : Prop := Claim7.holds Tryd.pinned (.plain (OpenSpec.ofChange fnExactFormatRangesSpec)) fnExactFormatRangesCard

/-- THE TIED CARD OF 'laws.FnExactResolveRanges'. -/
def fnExactResolveRangesCard : Claim7 := { stood := { row := fnExactResolveRangesRow, standIns := [], harness := (true, "c468fb4784d406fceff5d446ddb6aa5b6aead6053eb47cda29b822005d543c89"), looks := true }, kinds := [], alts := [], laidByText := true, laidKinds := [.sentinel], laidTests := true, laidLooks := .later }
def FnExactResolveRangesCardSaid : Prop := Claim7.holds Tryd.pinned (.plain (OpenSpec.ofChange fnExactResolveRangesSpec)) fnExactResolveRangesCard

/-- THE TIED CARD OF 'laws.FnExactParseRanges'. -/
def fnExactParseRangesCard : Claim7 := { stood := { row := fnExactParseRangesRow, standIns := [], harness := (true, "c468fb4784d406fceff5d446ddb6aa5b6aead6053eb47cda29b822005d543c89"), looks := true }, kinds := [], alts := [], laidByText := true, laidKinds := [.data, .data, .data, .data, .sentinel, .sentinel, .pinned], laidTests := true, laidLooks := .later }
def FnExactParseRangesCardSaid : Prop := Claim7.holds Tryd.pinned (.plain (OpenSpec.ofChange fnExactParseRangesSpec)) fnExactParseRangesCard

/-- THE SECOND FORM's CARD OF 'laws.FnExactFormatRanges'. -/
def fnExactFormatRangesUptoCard : Claim7 := { stood := { row := fnExactFormatRangesUptoRow, standIns := [], harness := (true, "c468fb4784d406fceff5d446ddb6aa5b6aead6053eb47cda29b822005d543c89"), looks := true }, kinds := [], alts := [], laidByText := true, laidKinds := [.data, .data, .data], laidTests := true, laidLooks := .later }
def FnExactFormatRangesUptoCardSaid : Prop := Claim7.holds Tryd.pinned (.plain (OpenSpec.upto fnExactFormatRangesSpec)) fnExactFormatRangesUptoCard

/-- THE SECOND FORM's CARD OF 'laws.FnExactResolveRanges'. -/
def fnExactResolveRangesUptoCard : Claim7 := { stood := { row := fnExactResolveRangesUptoRow, standIns := [], harness := (true, "c468fb4784d406fceff5d446ddb6aa5b6aead6053eb47cda29b822005d543c89"), looks := true }, kinds := [], alts := [], laidByText := true, laidKinds := [.sentinel], laidTests := true, laidLooks := .later }
def FnExactResolveRangesUptoCardSaid : Prop := Claim7.holds Tryd.pinned (.plain (OpenSpec.upto fnExactResolveRangesSpec)) fnExactResolveRangesUptoCard

/-- THE SECOND FORM's CARD OF 'laws.FnExactParseRanges'. -/
def fnExactParseRangesUptoCard : Claim7 := { stood := { row := fnExactParseRangesUptoRow, standIns := [], harness := (true, "c468fb4784d406fceff5d446ddb6aa5b6aead6053eb47cda29b822005d543c89"), looks := true }, kinds := [], alts := [], laidByText := true, laidKinds := [.data, .data, .data, .data, .sentinel, .sentinel, .pinned], laidTests := true, laidLooks := .later }
def FnExactParseRangesUptoCardSaid : Prop := Claim7.holds Tryd.pinned (.plain (OpenSpec.upto fnExactParseRangesSpec)) fnExactParseRangesUptoCard
end Rows
end Go.Proofs.YtmdmckhlfcogfaaDoor
