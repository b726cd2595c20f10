/-
  DERIVED. GIVEN WITH THE SEED: THE CARDS: each row of YtdnnnkilbflhlaaDoorRows.lean that lists a variable, with what it lists TIED to the program's text (the seventh form; the later family's looks); each row that meets fmt, with fmt's text TOLD by the authors' own Lean function (tested against real Go, not proved from fmt's source: count such statements apart). THE CARD IS WHAT COUNTS. Prove the row's statement (the work); the ties are given (YtdnnnkilbflhlaaDoorTie.lean); close each card by the builder's one call (the guide's Derived/Test/ToyasCard.lean, 'card_holds'). Laid BY PROGRAM, IN A SANDBOX (cutbox-door.mjs). By AI agents, Wed Nov 11 2026. No macro, syntax, notation, axiom, sorry.
-/
import Derived.Test.YtdnnnkilbflhlaaDoorRows
import GoSem.ClaimSeven
namespace Go.Proofs.YtdnnnkilbflhlaaDoor
namespace Rows

/-- THE TIED CARD OF 'laws.FnFields'. -/
def fnFieldsCard : Claim7 := { stood := { row := fnFieldsRow, standIns := [], harness := (true, "0cd206f9ad3676fef4ce1f0a01992879132058f45f1a9cb6f41a87d0d2cfa68a"), looks := false }, kinds := [], alts := [], laidByText := true, laidKinds := [.data, .pinned], laidTests := true, laidLooks := .later }
def FnFieldsCardSaid : Prop := Claim7.holds Tryd.pinned (.plain (OpenSpec.ofChange fnFieldsSpec)) fnFieldsCard

/-- THE TIED CARD OF 'laws.FnExactAreFields'. -/
def fnExactAreFieldsCard : Claim7 := { stood := { row := fnExactAreFieldsRow, standIns := [], harness := (true, "0cd206f9ad3676fef4ce1f0a01992879132058f45f1a9cb6f41a87d0d2cfa68a"), looks := false }, kinds := [], alts := [], laidByText := true, laidKinds := [.data, .pinned], laidTests := true, laidLooks := .later }
def FnExactAreFieldsCardSaid : Prop := Claim7.holds Tryd.pinned (.plain (OpenSpec.ofChange fnExactAreFieldsSpec)) fnExactAreFieldsCard

/-- THE TIED CARD OF 'laws.FnExactParseFields'. -/
def fnExactParseFieldsCard : Claim7 := { stood := { row := fnExactParseFieldsRow, standIns := [], harness := (true, "0cd206f9ad3676fef4ce1f0a01992879132058f45f1a9cb6f41a87d0d2cfa68a"), looks := false }, kinds := [], alts := [], laidByText := true, laidKinds := [.data, .pinned], laidTests := true, laidLooks := .later }
def FnExactParseFieldsCardSaid : Prop := Claim7.holds Tryd.pinned (.plain (OpenSpec.ofChange fnExactParseFieldsSpec)) fnExactParseFieldsCard

/-- THE SECOND FORM's CARD OF 'laws.FnFields'. -/
def fnFieldsUptoCard : Claim7 := { stood := { row := fnFieldsUptoRow, standIns := [], harness := (true, "0cd206f9ad3676fef4ce1f0a01992879132058f45f1a9cb6f41a87d0d2cfa68a"), looks := false }, kinds := [], alts := [], laidByText := true, laidKinds := [.data, .pinned], laidTests := true, laidLooks := .later }
def FnFieldsUptoCardSaid : Prop := Claim7.holds Tryd.pinned (.plain (OpenSpec.upto fnFieldsSpec)) fnFieldsUptoCard

/-- THE SECOND FORM's CARD OF 'laws.FnExactAreFields'. -/
def fnExactAreFieldsUptoCard : Claim7 := { stood := { row := fnExactAreFieldsUptoRow, standIns := [], harness := (true, "0cd206f9ad3676fef4ce1f0a01992879132058f45f1a9cb6f41a87d0d2cfa68a"), looks := false }, kinds := [], alts := [], laidByText := true, laidKinds := [.data, .pinned], laidTests := true, laidLooks := .later }
def FnExactAreFieldsUptoCardSaid : Prop := Claim7.holds Tryd.pinned (.plain (OpenSpec.upto fnExactAreFieldsSpec)) fnExactAreFieldsUptoCard

/-- THE SECOND FORM's CARD OF 'laws.FnExactParseFields'. -/
def fnExactParseFieldsUptoCard : Claim7 := { stood := { row := fnExactParseFieldsUptoRow, standIns := [], harness := (true, "0cd206f9ad3676fef4ce1f0a01992879132058f45f1a9cb6f41a87d0d2cfa68a"), looks := false }, kinds := [], alts := [], laidByText := true, laidKinds := [.data, .pinned], laidTests := true, laidLooks := .later }
def FnExactParseFieldsUptoCardSaid : Prop := Claim7.holds Tryd.pinned (.plain (OpenSpec.upto fnExactParseFieldsSpec)) fnExactParseFieldsUptoCard
end Rows
end Go.Proofs.YtdnnnkilbflhlaaDoor
