/-
  DERIVED. GIVEN WITH THE SEED: THE CARDS: each row of YtddpfhcmifnagaaGreatDoorRows.lean that lists a variable, with what it lists TIED to the program's text (the seventh form; the later family's looks); each row that meets fmt, with fmt's text TOLD by the authors' own Lean function (tested against real Go, not proved from fmt's source: count such statements apart). THE CARD IS WHAT COUNTS. Prove the row's statement (the work); the ties are given (YtddpfhcmifnagaaGreatDoorTie.lean); close each card by the builder's one call (the guide's Derived/Test/ToyasCard.lean, 'card_holds'). Laid BY PROGRAM, IN A SANDBOX (cutbox-door.mjs). By AI agents, Wed Nov 11 2026. No macro, syntax, notation, axiom, sorry.
-/
import Derived.Test.YtddpfhcmifnagaaGreatDoorRows
import GoSem.ClaimSeven
namespace Go.Proofs.YtddpfhcmifnagaaGreatDoor
namespace Rows

/-- THE TIED CARD OF 'laws.FnExactMayUseOnError'. -/
def fnExactMayUseOnErrorCard : Claim7 := { stood := { row := fnExactMayUseOnErrorRow, standIns := [], harness := (true, "3eb331254d1077c19ed7f1150ba28c0daf9b92fa5ead84f24f6869c9ee272bbe"), looks := false }, kinds := [], alts := [], laidByText := true, laidKinds := [.data, .sentinel, .sentinel, .pinned], laidTests := true, laidLooks := .later }
def FnExactMayUseOnErrorCardSaid : Prop := Claim7.holds Tryz.pinned (.plain (OpenSpec.ofChange fnExactMayUseOnErrorSpec)) fnExactMayUseOnErrorCard

/-- THE TIED CARD OF 'laws.FnExactPlanFor'. -/
def fnExactPlanForCard : Claim7 := { stood := { row := fnExactPlanForRow, standIns := [], harness := (true, "3eb331254d1077c19ed7f1150ba28c0daf9b92fa5ead84f24f6869c9ee272bbe"), looks := false }, kinds := [], alts := [], laidByText := true, laidKinds := [.data, .sentinel, .sentinel, .pinned], laidTests := true, laidLooks := .later }
def FnExactPlanForCardSaid : Prop := Claim7.holds Tryz.pinned (.plain (OpenSpec.ofChange fnExactPlanForSpec)) fnExactPlanForCard

/-- THE TIED CARD OF 'laws.FnExactCheckConditions'. -/
def fnExactCheckConditionsCard : Claim7 := { stood := { row := fnExactCheckConditionsRow, standIns := [], harness := (true, "3eb331254d1077c19ed7f1150ba28c0daf9b92fa5ead84f24f6869c9ee272bbe"), looks := false }, kinds := [], alts := [], laidByText := true, laidKinds := [.data, .data, .data, .data, .data, .data, .data, .pinned], laidTests := true, laidLooks := .later }
def FnExactCheckConditionsCardSaid : Prop := Claim7.holds Tryz.pinned (.plain (OpenSpec.ofChange fnExactCheckConditionsSpec)) fnExactCheckConditionsCard

/-- THE SECOND FORM's CARD OF 'laws.FnExactMayUseOnError'. -/
def fnExactMayUseOnErrorUptoCard : Claim7 := { stood := { row := fnExactMayUseOnErrorUptoRow, standIns := [], harness := (true, "3eb331254d1077c19ed7f1150ba28c0daf9b92fa5ead84f24f6869c9ee272bbe"), looks := false }, kinds := [], alts := [], laidByText := true, laidKinds := [.data, .sentinel, .sentinel, .pinned], laidTests := true, laidLooks := .later }
def FnExactMayUseOnErrorUptoCardSaid : Prop := Claim7.holds Tryz.pinned (.plain (OpenSpec.upto fnExactMayUseOnErrorSpec)) fnExactMayUseOnErrorUptoCard

/-- THE SECOND FORM's CARD OF 'laws.FnExactPlanFor'. -/
def fnExactPlanForUptoCard : Claim7 := { stood := { row := fnExactPlanForUptoRow, standIns := [], harness := (true, "3eb331254d1077c19ed7f1150ba28c0daf9b92fa5ead84f24f6869c9ee272bbe"), looks := false }, kinds := [], alts := [], laidByText := true, laidKinds := [.data, .sentinel, .sentinel, .pinned], laidTests := true, laidLooks := .later }
def FnExactPlanForUptoCardSaid : Prop := Claim7.holds Tryz.pinned (.plain (OpenSpec.upto fnExactPlanForSpec)) fnExactPlanForUptoCard

/-- THE SECOND FORM's CARD OF 'laws.FnExactCheckConditions'. -/
def fnExactCheckConditionsUptoCard : Claim7 := { stood := { row := fnExactCheckConditionsUptoRow, standIns := [], harness := (true, "3eb331254d1077c19ed7f1150ba28c0daf9b92fa5ead84f24f6869c9ee272bbe"), looks := false }, kinds := [], alts := [], laidByText := true, laidKinds := [.data, .data, .data, .data, .data, .data, .data, .pinned], laidTests := true, laidLooks := .later }
def FnExactCheckConditionsUptoCardSaid : Prop := Claim7.holds Tryz.pinned (.plain (OpenSpec.upto fnExactCheckConditionsSpec)) fnExactCheckConditionsUptoCard
end Rows
end Go.Proofs.YtddpfhcmifnagaaGreatDoor
