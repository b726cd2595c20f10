/-
  DERIVED. GIVEN WITH THE SEED: THE CARDS: each row of YtajojhfddedgbaaDoorRows.lean that lists a variable, with what it lists TIED to the program's text (the seventh form; the later family's looks); each row that meets fmt, with fmt's text TOLD by the authors' own Lean function (tested against real Go, not proved from fmt's source: count such statements apart). THE CARD IS WHAT COUNTS. Prove the row's statement (the work); the ties are given (YtajojhfddedgbaaDoorTie.lean); close each card by the builder's one call (the guide's Derived/Test/ToyasCard.lean, 'card_holds'). Laid BY PROGRAM, IN A SANDBOX (cutbox-door.mjs). By AI agents, Wed Nov 11 2026. No macro, syntax, notation, axiom, sorry.
-/
import Derived.Test.YtajojhfddedgbaaDoorRows
import GoSem.ClaimSeven
namespace Go.Proofs.YtajojhfddedgbaaDoor
namespace Rows

/-- THE TIED CARD OF 'laws.FnLists'. -/
def fnListsCard : Claim7 := { stood := { row := fnListsRow, standIns := [], harness := (true, "b53824599c85f555a7024af6f5de14d6a3de819e2af08f71de445b4e53ed6766"), looks := false }, kinds := [], alts := [], laidByText := true, laidKinds := [.data, .pinned], laidTests := true, laidLooks := .later }
def FnListsCardSaid : Prop := Claim7.holds Tryd.pinned (.plain (OpenSpec.ofChange fnListsSpec)) fnListsCard

/-- THE TIED CARD OF 'laws.FnExactTrimText'. -/
def fnExactTrimTextCard : Claim7 := { stood := { row := fnExactTrimTextRow, standIns := [], harness := (true, "b53824599c85f555a7024af6f5de14d6a3de819e2af08f71de445b4e53ed6766"), looks := false }, kinds := [], alts := [], laidByText := true, laidKinds := [.data, .pinned], laidTests := true, laidLooks := .later }
def FnExactTrimTextCardSaid : Prop := Claim7.holds Tryd.pinned (.plain (OpenSpec.ofChange fnExactTrimTextSpec)) fnExactTrimTextCard

/-- THE TIED CARD OF 'laws.FnExactSplitList'. -/
def fnExactSplitListCard : Claim7 := { stood := { row := fnExactSplitListRow, standIns := [], harness := (true, "b53824599c85f555a7024af6f5de14d6a3de819e2af08f71de445b4e53ed6766"), looks := false }, kinds := [], alts := [], laidByText := true, laidKinds := [.data, .pinned], laidTests := true, laidLooks := .later }
def FnExactSplitListCardSaid : Prop := Claim7.holds Tryd.pinned (.plain (OpenSpec.ofChange fnExactSplitListSpec)) fnExactSplitListCard

/-- THE TIED CARD OF 'laws.FnExactSplitPair'. -/
def fnExactSplitPairCard : Claim7 := { stood := { row := fnExactSplitPairRow, standIns := [], harness := (true, "b53824599c85f555a7024af6f5de14d6a3de819e2af08f71de445b4e53ed6766"), looks := false }, kinds := [], alts := [], laidByText := true, laidKinds := [.data, .pinned], laidTests := true, laidLooks := .later }
def FnExactSplitPairCardSaid : Prop := Claim7.holds Tryd.pinned (.plain (OpenSpec.ofChange fnExactSplitPairSpec)) fnExactSplitPairCard

/-- THE SECOND FORM's CARD OF 'laws.FnLists'. -/
def fnListsUptoCard : Claim7 := { stood := { row := fnListsUptoRow, standIns := [], harness := (true, "b53824599c85f555a7024af6f5de14d6a3de819e2af08f71de445b4e53ed6766"), looks := false }, kinds := [], alts := [], laidByText := true, laidKinds := [.data, .pinned], laidTests := true, laidLooks := .later }
def FnListsUptoCardSaid : Prop := Claim7.holds Tryd.pinned (.plain (OpenSpec.upto fnListsSpec)) fnListsUptoCard

/-- THE SECOND FORM's CARD OF 'laws.FnExactTrimText'. -/
def fnExactTrimTextUptoCard : Claim7 := { stood := { row := fnExactTrimTextUptoRow, standIns := [], harness := (true, "b53824599c85f555a7024af6f5de14d6a3de819e2af08f71de445b4e53ed6766"), looks := false }, kinds := [], alts := [], laidByText := true, laidKinds := [.data, .pinned], laidTests := true, laidLooks := .later }
def FnExactTrimTextUptoCardSaid : Prop := Claim7.holds Tryd.pinned (.plain (OpenSpec.upto fnExactTrimTextSpec)) fnExactTrimTextUptoCard

/-- THE SECOND FORM's CARD OF 'laws.FnExactSplitList'. -/
def fnExactSplitListUptoCard : Claim7 := { stood := { row := fnExactSplitListUptoRow, standIns := [], harness := (true, "b53824599c85f555a7024af6f5de14d6a3de819e2af08f71de445b4e53ed6766"), looks := false }, kinds := [], alts := [], laidByText := true, laidKinds := [.data, .pinned], laidTests := true, laidLooks := .later }
def FnExactSplitListUptoCardSaid : Prop := Claim7.holds Tryd.pinned (.plain (OpenSpec.upto fnExactSplitListSpec)) fnExactSplitListUptoCard

/-- THE SECOND FORM's CARD OF 'laws.FnExactSplitPair'. -/
def fnExactSplitPairUptoCard : Claim7 := { stood := { row := fnExactSplitPairUptoRow, standIns := [], harness := (true, "b53824599c85f555a7024af6f5de14d6a3de819e2af08f71de445b4e53ed6766"), looks := false }, kinds := [], alts := [], laidByText := true, laidKinds := [.data, .pinned], laidTests := true, laidLooks := .later }
def FnExactSplitPairUptoCardSaid : Prop := Claim7.holds Tryd.pinned (.plain (OpenSpec.upto fnExactSplitPairSpec)) fnExactSplitPairUptoCard
end Rows
end Go.Proofs.YtajojhfddedgbaaDoor
