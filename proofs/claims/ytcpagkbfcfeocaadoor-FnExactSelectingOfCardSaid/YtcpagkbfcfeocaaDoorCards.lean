/-
  DERIVED. GIVEN WITH THE SEED: THE CARDS: each row of YtcpagkbfcfeocaaDoorRows.lean that lists a variable, with what it lists TIED to the program's text (the seventh form; the later family's looks); each row that meets fmt, with fmt's text TOLD by the authors' own Lean function (tested against real Go, not proved from fmt's source: count such statements apart). THE CARD IS WHAT COUNTS. Prove the row's statement (the work); the ties are given (YtcpagkbfcfeocaaDoorTie.lean); close each card by the builder's one call (the guide's Derived/Test/ToyasCard.lean, 'card_holds'). Laid BY PROGRAM, IN A SANDBOX (cutbox-door.mjs). By AI agents, Wed Nov 11 2026. No macro, syntax, notation, axiom, sorry.
-/
import Derived.Test.YtcpagkbfcfeocaaDoorRows
import GoSem.ClaimSeven
namespace Go.Proofs.YtcpagkbfcfeocaaDoor
namespace Rows

/-- THE TIED CARD OF 'laws.FnExactVaryOf'. -/
def fnExactVaryOfCard : Claim7 := { stood := { row := fnExactVaryOfRow, standIns := [], harness := (true, "a69c011743d6c7f7736f45abf0b7487eb48789cab9fd0e6c1e8b8492a2cde3ce"), looks := false }, kinds := [], alts := [], laidByText := true, laidKinds := [.data, .pinned], laidTests := true, laidLooks := .later }
def FnExactVaryOfCardSaid : Prop := Claim7.holds Tryd.pinned (.plain (OpenSpec.ofChange fnExactVaryOfSpec)) fnExactVaryOfCard

/-- THE TIED CARD OF 'laws.FnExactSelectingOf'. -/
def fnExactSelectingOfCard : Claim7 := { stood := { row := fnExactSelectingOfRow, standIns := [], harness := (true, "a69c011743d6c7f7736f45abf0b7487eb48789cab9fd0e6c1e8b8492a2cde3ce"), looks := false }, kinds := [], alts := [], laidByText := true, laidKinds := [.data, .pinned], laidTests := true, laidLooks := .later }
def FnExactSelectingOfCardSaid : Prop := Claim7.holds Tryd.pinned (.plain (OpenSpec.ofChange fnExactSelectingOfSpec)) fnExactSelectingOfCard

/-- THE TIED CARD OF 'laws.FnExactAgrees'. -/
def fnExactAgreesCard : Claim7 := { stood := { row := fnExactAgreesRow, standIns := [], harness := (true, "a69c011743d6c7f7736f45abf0b7487eb48789cab9fd0e6c1e8b8492a2cde3ce"), looks := false }, kinds := [], alts := [], laidByText := true, laidKinds := [.data, .pinned], laidTests := true, laidLooks := .later }
def FnExactAgreesCardSaid : Prop := Claim7.holds Tryd.pinned (.plain (OpenSpec.ofChange fnExactAgreesSpec)) fnExactAgreesCard

/-- THE TIED CARD OF 'laws.FnExactVisitorOf'. -/
def fnExactVisitorOfCard : Claim7 := { stood := { row := fnExactVisitorOfRow, standIns := [], harness := (true, "a69c011743d6c7f7736f45abf0b7487eb48789cab9fd0e6c1e8b8492a2cde3ce"), looks := false }, kinds := [], alts := [], laidByText := true, laidKinds := [.data, .pinned], laidTests := true, laidLooks := .later }
def FnExactVisitorOfCardSaid : Prop := Claim7.holds Tryd.pinned (.plain (OpenSpec.ofChange fnExactVisitorOfSpec)) fnExactVisitorOfCard

/-- THE SECOND FORM's CARD OF 'laws.FnExactVaryOf'. -/
def fnExactVaryOfUptoCard : Claim7 := { stood := { row := fnExactVaryOfUptoRow, standIns := [], harness := (true, "a69c011743d6c7f7736f45abf0b7487eb48789cab9fd0e6c1e8b8492a2cde3ce"), looks := false }, kinds := [], alts := [], laidByText := true, laidKinds := [.data, .pinned], laidTests := true, laidLooks := .later }
def FnExactVaryOfUptoCardSaid : Prop := Claim7.holds Tryd.pinned (.plain (OpenSpec.upto fnExactVaryOfSpec)) fnExactVaryOfUptoCard

/-- THE SECOND FORM's CARD OF 'laws.FnExactSelectingOf'. -/
def fnExactSelectingOfUptoCard : Claim7 := { stood := { row := fnExactSelectingOfUptoRow, standIns := [], harness := (true, "a69c011743d6c7f7736f45abf0b7487eb48789cab9fd0e6c1e8b8492a2cde3ce"), looks := false }, kinds := [], alts := [], laidByText := true, laidKinds := [.data, .pinned], laidTests := true, laidLooks := .later }
def FnExactSelectingOfUptoCardSaid : Prop := Claim7.holds Tryd.pinned (.plain (OpenSpec.upto fnExactSelectingOfSpec)) fnExactSelectingOfUptoCard

/-- THE SECOND FORM's CARD OF 'laws.FnExactAgrees'. -/
def fnExactAgreesUptoCard : Claim7 := { stood := { row := fnExactAgreesUptoRow, standIns := [], harness := (true, "a69c011743d6c7f7736f45abf0b7487eb48789cab9fd0e6c1e8b8492a2cde3ce"), looks := false }, kinds := [], alts := [], laidByText := true, laidKinds := [.data, .pinned], laidTests := true, laidLooks := .later }
def FnExactAgreesUptoCardSaid : Prop := Claim7.holds Tryd.pinned (.plain (OpenSpec.upto fnExactAgreesSpec)) fnExactAgreesUptoCard

/-- THE SECOND FORM's CARD OF 'laws.FnExactVisitorOf'. -/
def fnExactVisitorOfUptoCard : Claim7 := { stood := { row := fnExactVisitorOfUptoRow, standIns := [], harness := (true, "a69c011743d6c7f7736f45abf0b7487eb48789cab9fd0e6c1e8b8492a2cde3ce"), looks := false }, kinds := [], alts := [], laidByText := true, laidKinds := [.data, .pinned], laidTests := true, laidLooks := .later }
def FnExactVisitorOfUptoCardSaid : Prop := Claim7.holds Tryd.pinned (.plain (OpenSpec.upto fnExactVisitorOfSpec)) fnExactVisitorOfUptoCard
end Rows
end Go.Proofs.YtcpagkbfcfeocaaDoor
