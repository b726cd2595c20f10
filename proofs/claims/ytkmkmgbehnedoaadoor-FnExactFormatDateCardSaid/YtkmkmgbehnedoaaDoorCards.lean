/-
  DERIVED. GIVEN WITH THE SEED: THE CARDS: each row of YtkmkmgbehnedoaaDoorRows.lean that lists a variable, with what it lists TIED to the program's text (the seventh form; the later family's looks); each row that meets fmt, with fmt's text TOLD by the authors' own Lean function (tested against real Go, not proved from fmt's source: count such statements apart). THE CARD IS WHAT COUNTS. Prove the row's statement (the work); the ties are given (YtkmkmgbehnedoaaDoorTie.lean); close each card by the builder's one call (the guide's Derived/Test/ToyasCard.lean, 'card_holds'). Laid BY PROGRAM, IN A SANDBOX (cutbox-door.mjs). By AI agents, Wed Nov 11 2026. No macro, syntax, notation, axiom, sorry.
-/
import Derived.Test.YtkmkmgbehnedoaaDoorRows
import GoSem.ClaimSeven
namespace Go.Proofs.YtkmkmgbehnedoaaDoor
namespace Rows

/-- THE TIED CARD OF 'laws.FnDates'. -/
def fnDatesCard : Claim7 := { stood := { row := fnDatesRow, standIns := [], harness := (true, "e1e0d9e79e74415988d7b7fcd95c995bed387ab27c9f7cde0b5668e7acfdaa45"), looks := false }, kinds := [], alts := [], laidByText := true, laidKinds := [.data, .data, .data, .data, .data, .data], laidTests := true, laidLooks := .later }
def FnDatesCardSaid : Prop := Claim7.holds Tryd.pinned (.plain (OpenSpec.ofChange fnDatesSpec)) fnDatesCard

/-- THE TIED CARD OF 'laws.FnExactFormatDate'. -/
def fnExactFormatDateCard : Claim7 := { stood := { row := fnExactFormatDateRow, standIns := [], harness := (true, "e1e0d9e79e74415988d7b7fcd95c995bed387ab27c9f7cde0b5668e7acfdaa45"), looks := false }, kinds := [], alts := [], laidByText := true, laidKinds := [.data, .data, .data, .data, .data, .data], laidTests := true, laidLooks := .later }
def FnExactFormatDateCardSaid : Prop := Claim7.holds Tryd.pinned (.plain (OpenSpec.ofChange fnExactFormatDateSpec)) fnExactFormatDateCard

/-- THE TIED CARD OF 'laws.FnExactParseDate'. -/
def fnExactParseDateCard : Claim7 := { stood := { row := fnExactParseDateRow, standIns := [], harness := (true, "e1e0d9e79e74415988d7b7fcd95c995bed387ab27c9f7cde0b5668e7acfdaa45"), looks := false }, kinds := [], alts := [], laidByText := true, laidKinds := [.data, .data, .data, .data, .data, .data], laidTests := true, laidLooks := .later }
def FnExactParseDateCardSaid : Prop := Claim7.holds Tryd.pinned (.plain (OpenSpec.ofChange fnExactParseDateSpec)) fnExactParseDateCard

/-- THE TIED CARD OF 'laws.FnFields'. -/
def fnFieldsCard : Claim7 := { stood := { row := fnFieldsRow, standIns := [], harness := (true, "e1e0d9e79e74415988d7b7fcd95c995bed387ab27c9f7cde0b5668e7acfdaa45"), looks := false }, kinds := [], alts := [], laidByText := true, laidKinds := [.data, .pinned], laidTests := true, laidLooks := .later }
def FnFieldsCardSaid : Prop := Claim7.holds Tryd.pinned (.plain (OpenSpec.ofChange fnFieldsSpec)) fnFieldsCard

/-- THE TIED CARD OF 'laws.FnExactParseFields'. -/
def fnExactParseFieldsCard : Claim7 := { stood := { row := fnExactParseFieldsRow, standIns := [], harness := (true, "e1e0d9e79e74415988d7b7fcd95c995bed387ab27c9f7cde0b5668e7acfdaa45"), looks := false }, kinds := [], alts := [], laidByText := true, laidKinds := [.data, .pinned], laidTests := true, laidLooks := .later }
def FnExactParseFieldsCardSaid : Prop := Claim7.holds Tryd.pinned (.plain (OpenSpec.ofChange fnExactParseFieldsSpec)) fnExactParseFieldsCard

/-- THE TIED CARD OF 'laws.FnDirectives'. -/
def fnDirectivesCard : Claim7 := { stood := { row := fnDirectivesRow, standIns := [], harness := (true, "e1e0d9e79e74415988d7b7fcd95c995bed387ab27c9f7cde0b5668e7acfdaa45"), looks := false }, kinds := [], alts := [], laidByText := true, laidKinds := [.data, .sentinel, .sentinel, .pinned], laidTests := true, laidLooks := .later }
def FnDirectivesCardSaid : Prop := Claim7.holds Tryd.pinned (.plain (OpenSpec.ofChange fnDirectivesSpec)) fnDirectivesCard

/-- THE TIED CARD OF 'laws.FnExactParseDirectives'. -/
def fnExactParseDirectivesCard : Claim7 := { stood := { row := fnExactParseDirectivesRow, standIns := [], harness := (true, "e1e0d9e79e74415988d7b7fcd95c995bed387ab27c9f7cde0b5668e7acfdaa45"), looks := false }, kinds := [], alts := [], laidByText := true, laidKinds := [.data, .sentinel, .sentinel, .pinned], laidTests := true, laidLooks := .later }
def FnExactParseDirectivesCardSaid : Prop := Claim7.holds Tryd.pinned (.plain (OpenSpec.ofChange fnExactParseDirectivesSpec)) fnExactParseDirectivesCard

/-- THE TIED CARD OF 'laws.FnExactSecondsOf'. -/
def fnExactSecondsOfCard : Claim7 := { stood := { row := fnExactSecondsOfRow, standIns := [], harness := (true, "e1e0d9e79e74415988d7b7fcd95c995bed387ab27c9f7cde0b5668e7acfdaa45"), looks := false }, kinds := [], alts := [], laidByText := true, laidKinds := [.data, .pinned], laidTests := true, laidLooks := .later }
def FnExactSecondsOfCardSaid : Prop := Claim7.holds Tryd.pinned (.plain (OpenSpec.ofChange fnExactSecondsOfSpec)) fnExactSecondsOfCard

/-- THE SECOND FORM's CARD OF 'laws.FnDates'. -/
def fnDatesUptoCard : Claim7 := { stood := { row := fnDatesUptoRow, standIns := [], harness := (true, "e1e0d9e79e74415988d7b7fcd95c995bed387ab27c9f7cde0b5668e7acfdaa45"), looks := false }, kinds := [], alts := [], laidByText := true, laidKinds := [.data, .data, .data, .data, .data, .data], laidTests := true, laidLooks := .later }
def FnDatesUptoCardSaid : Prop := Claim7.holds Tryd.pinned (.plain (OpenSpec.upto fnDatesSpec)) fnDatesUptoCard

/-- THE SECOND FORM's CARD OF 'laws.FnExactFormatDate'. -/
def fnExactFormatDateUptoCard : Claim7 := { stood := { row := fnExactFormatDateUptoRow, standIns := [], harness := (true, "e1e0d9e79e74415988d7b7fcd95c995bed387ab27c9f7cde0b5668e7acfdaa45"), looks := false }, kinds := [], alts := [], laidByText := true, laidKinds := [.data, .data, .data, .data, .data, .data], laidTests := true, laidLooks := .later }
def FnExactFormatDateUptoCardSaid : Prop := Claim7.holds Tryd.pinned (.plain (OpenSpec.upto fnExactFormatDateSpec)) fnExactFormatDateUptoCard

/-- THE SECOND FORM's CARD OF 'laws.FnExactParseDate'. -/
def fnExactParseDateUptoCard : Claim7 := { stood := { row := fnExactParseDateUptoRow, standIns := [], harness := (true, "e1e0d9e79e74415988d7b7fcd95c995bed387ab27c9f7cde0b5668e7acfdaa45"), looks := false }, kinds := [], alts := [], laidByText := true, laidKinds := [.data, .data, .data, .data, .data, .data], laidTests := true, laidLooks := .later }
def FnExactParseDateUptoCardSaid : Prop := Claim7.holds Tryd.pinned (.plain (OpenSpec.upto fnExactParseDateSpec)) fnExactParseDateUptoCard

/-- THE SECOND FORM's CARD OF 'laws.FnFields'. -/
def fnFieldsUptoCard : Claim7 := { stood := { row := fnFieldsUptoRow, standIns := [], harness := (true, "e1e0d9e79e74415988d7b7fcd95c995bed387ab27c9f7cde0b5668e7acfdaa45"), looks := false }, kinds := [], alts := [], laidByText := true, laidKinds := [.data, .pinned], laidTests := true, laidLooks := .later }
def FnFieldsUptoCardSaid : Prop := Claim7.holds Tryd.pinned (.plain (OpenSpec.upto fnFieldsSpec)) fnFieldsUptoCard

/-- THE SECOND FORM's CARD OF 'laws.FnExactParseFields'. -/
def fnExactParseFieldsUptoCard : Claim7 := { stood := { row := fnExactParseFieldsUptoRow, standIns := [], harness := (true, "e1e0d9e79e74415988d7b7fcd95c995bed387ab27c9f7cde0b5668e7acfdaa45"), looks := false }, kinds := [], alts := [], laidByText := true, laidKinds := [.data, .pinned], laidTests := true, laidLooks := .later }
def FnExactParseFieldsUptoCardSaid : Prop := Claim7.holds Tryd.pinned (.plain (OpenSpec.upto fnExactParseFieldsSpec)) fnExactParseFieldsUptoCard

/-- THE SECOND FORM's CARD OF 'laws.FnDirectives'. -/
def fnDirectivesUptoCard : Claim7 := { stood := { row := fnDirectivesUptoRow, standIns := [], harness := (true, "e1e0d9e79e74415988d7b7fcd95c995bed387ab27c9f7cde0b5668e7acfdaa45"), looks := false }, kinds := [], alts := [], laidByText := true, laidKinds := [.data, .sentinel, .sentinel, .pinned], laidTests := true, laidLooks := .later }
def FnDirectivesUptoCardSaid : Prop := Claim7.holds Tryd.pinned (.plain (OpenSpec.upto fnDirectivesSpec)) fnDirectivesUptoCard

/-- THE SECOND FORM's CARD OF 'laws.FnExactParseDirectives'. -/
def fnExactParseDirectivesUptoCard : Claim7 := { stood := { row := fnExactParseDirectivesUptoRow, standIns := [], harness := (true, "e1e0d9e79e74415988d7b7fcd95c995bed387ab27c9f7cde0b5668e7acfdaa45"), looks := false }, kinds := [], alts := [], laidByText := true, laidKinds := [.data, .sentinel, .sentinel, .pinned], laidTests := true, laidLooks := .later }
def FnExactParseDirectivesUptoCardSaid : Prop := Claim7.holds Tryd.pinned (.plain (OpenSpec.upto fnExactParseDirectivesSpec)) fnExactParseDirectivesUptoCard

/-- THE SECOND FORM's CARD OF 'laws.FnExactSecondsOf'. -/
def fnExactSecondsOfUptoCard : Claim7 := { stood := { row := fnExactSecondsOfUptoRow, standIns := [], harness := (true, "e1e0d9e79e74415988d7b7fcd95c995bed387ab27c9f7cde0b5668e7acfdaa45"), looks := false }, kinds := [], alts := [], laidByText := true, laidKinds := [.data, .pinned], laidTests := true, laidLooks := .later }
def FnExactSecondsOfUptoCardSaid : Prop := Claim7.holds Tryd.pinned (.plain (OpenSpec.upto fnExactSecondsOfSpec)) fnExactSecondsOfUptoCard
end Rows
end Go.Proofs.YtkmkmgbehnedoaaDoor
