/-
  DERIVED. GIVEN WITH THE SEED: THE CARDS: each row of YtikpolmnadmkoaaDoorRows.lean that lists a variable, with what it lists TIED to the program's text (the seventh form; the later family's looks); each row that meets fmt, with fmt's text TOLD by the authors' own Lean function (tested against real Go, not proved from fmt's source: count such statements apart). THE CARD IS WHAT COUNTS. Prove the row's statement (the work); the ties are given (YtikpolmnadmkoaaDoorTie.lean); close each card by the builder's one call (the guide's Derived/Test/ToyasCard.lean, 'card_holds'). Laid BY PROGRAM, IN A SANDBOX (cutbox-door.mjs). By AI agents, Wed Nov 11 2026. No macro, syntax, notation, axiom, sorry.
-/
import Derived.Test.YtikpolmnadmkoaaDoorRows
import GoSem.ClaimSeven
namespace Go.Proofs.YtikpolmnadmkoaaDoor
namespace Rows

/-- THE TIED CARD OF 'laws.FnExactIsRequest'. -/
def fnExactIsRequestCard : Claim7 := { stood := { row := fnExactIsRequestRow, standIns := [], harness := (true, "497165774ba6136189ea8908ed96998c7efa9f4e96f4a2ec0b1631900bb93441"), looks := false }, kinds := [], alts := [], laidByText := true, laidKinds := [.data, .pinned, .pinned], laidTests := true, laidLooks := .later }
def FnExactIsRequestCardSaid : Prop := Claim7.holds Tryd.pinned (.plain (OpenSpec.ofChange fnExactIsRequestSpec)) fnExactIsRequestCard

/-- THE TIED CARD OF 'laws.FnExactIsResponse'. -/
def fnExactIsResponseCard : Claim7 := { stood := { row := fnExactIsResponseRow, standIns := [], harness := (true, "497165774ba6136189ea8908ed96998c7efa9f4e96f4a2ec0b1631900bb93441"), looks := false }, kinds := [], alts := [], laidByText := true, laidKinds := [.data, .pinned], laidTests := true, laidLooks := .later }
def FnExactIsResponseCardSaid : Prop := Claim7.holds Tryd.pinned (.plain (OpenSpec.ofChange fnExactIsResponseSpec)) fnExactIsResponseCard

/-- THE TIED CARD OF 'laws.FnExactFormatRequest'. -/
def fnExactFormatRequestCard : Claim7 := { stood := { row := fnExactFormatRequestRow, standIns := [], harness := (true, "497165774ba6136189ea8908ed96998c7efa9f4e96f4a2ec0b1631900bb93441"), looks := false }, kinds := [], alts := [], laidByText := true, laidKinds := [.data, .pinned, .pinned], laidTests := true, laidLooks := .later }
def FnExactFormatRequestCardSaid : Prop := Claim7.holds Tryd.pinned (.plain (OpenSpec.ofChange fnExactFormatRequestSpec)) fnExactFormatRequestCard

/-- THE TIED CARD OF 'laws.FnExactFormatResponse'. -/
def fnExactFormatResponseCard : Claim7 := { stood := { row := fnExactFormatResponseRow, standIns := [], harness := (true, "497165774ba6136189ea8908ed96998c7efa9f4e96f4a2ec0b1631900bb93441"), looks := false }, kinds := [], alts := [], laidByText := true, laidKinds := [.data, .data, .data, .data, .pinned], laidTests := true, laidLooks := .later }
def FnExactFormatResponseCardSaid : Prop := Claim7.holds Tryd.pinned (.plain (OpenSpec.ofChange fnExactFormatResponseSpec)) fnExactFormatResponseCard

/-- THE SECOND FORM's CARD OF 'laws.FnExactIsRequest'. -/
def fnExactIsRequestUptoCard : Claim7 := { stood := { row := fnExactIsRequestUptoRow, standIns := [], harness := (true, "497165774ba6136189ea8908ed96998c7efa9f4e96f4a2ec0b1631900bb93441"), looks := false }, kinds := [], alts := [], laidByText := true, laidKinds := [.data, .pinned, .pinned], laidTests := true, laidLooks := .later }
def FnExactIsRequestUptoCardSaid : Prop := Claim7.holds Tryd.pinned (.plain (OpenSpec.upto fnExactIsRequestSpec)) fnExactIsRequestUptoCard

/-- THE SECOND FORM's CARD OF 'laws.FnExactIsResponse'. -/
def fnExactIsResponseUptoCard : Claim7 := { stood := { row := fnExactIsResponseUptoRow, standIns := [], harness := (true, "497165774ba6136189ea8908ed96998c7efa9f4e96f4a2ec0b1631900bb93441"), looks := false }, kinds := [], alts := [], laidByText := true, laidKinds := [.data, .pinned], laidTests := true, laidLooks := .later }
def FnExactIsResponseUptoCardSaid : Prop := Claim7.holds Tryd.pinned (.plain (OpenSpec.upto fnExactIsResponseSpec)) fnExactIsResponseUptoCard

/-- THE SECOND FORM's CARD OF 'laws.FnExactFormatRequest'. -/
def fnExactFormatRequestUptoCard : Claim7 := { stood := { row := fnExactFormatRequestUptoRow, standIns := [], harness := (true, "497165774ba6136189ea8908ed96998c7efa9f4e96f4a2ec0b1631900bb93441"), looks := false }, kinds := [], alts := [], laidByText := true, laidKinds := [.data, .pinned, .pinned], laidTests := true, laidLooks := .later }
def FnExactFormatRequestUptoCardSaid : Prop := Claim7.holds Tryd.pinned (.plain (OpenSpec.upto fnExactFormatRequestSpec)) fnExactFormatRequestUptoCard

/-- THE SECOND FORM's CARD OF 'laws.FnExactFormatResponse'. -/
def fnExactFormatResponseUptoCard : Claim7 := { stood := { row := fnExactFormatResponseUptoRow, standIns := [], harness := (true, "497165774ba6136189ea8908ed96998c7efa9f4e96f4a2ec0b1631900bb93441"), looks := false }, kinds := [], alts := [], laidByText := true, laidKinds := [.data, .data, .data, .data, .pinned], laidTests := true, laidLooks := .later }
def FnExactFormatResponseUptoCardSaid : Prop := Claim7.holds Tryd.pinned (.plain (OpenSpec.upto fnExactFormatResponseSpec)) fnExactFormatResponseUptoCard
end Rows
end Go.Proofs.YtikpolmnadmkoaaDoor
