/-
  DERIVED. GIVEN WITH THE SEED: THE CARDS: each row of YtojmkdggkaocdaaGreatDoorRows.lean that lists a variable, with what it lists TIED to the program's text (the seventh form; the later family's looks); each row that meets fmt, with fmt's text TOLD by the authors' own Lean function (tested against real Go, not proved from fmt's source: count such statements apart). THE CARD IS WHAT COUNTS. Prove the row's statement (the work); the ties are given (YtojmkdggkaocdaaGreatDoorTie.lean); close each card by the builder's one call (the guide's Derived/Test/ToyasCard.lean, 'card_holds'). Laid BY PROGRAM, IN A SANDBOX (cutbox-door.mjs). By AI agents, Wed Nov 11 2026. No macro, syntax, notation, axiom, sorry.
-/
import Derived.Test.YtojmkdggkaocdaaGreatDoorRows
import GoSem.ClaimSeven
namespace Go.Proofs.YtojmkdggkaocdaaGreatDoor
namespace Rows

/-- THE TIED CARD OF 'laws.FnExactPassHop'. -/
def fnExactPassHopCard : Claim7 := { stood := { row := fnExactPassHopRow, standIns := [], harness := (true, "a39ac0f07bfd1000b64d9ad6646e76899e9b783ddd2644c02f05597fda506c45"), looks := true }, kinds := [], alts := [], laidByText := true, laidKinds := [.data, .data, .data, .sentinel, .sentinel, .data, .data, .data], laidTests := true, laidLooks := .later }
def FnExactPassHopCardSaid : Prop := Claim7.holds Tryz.pinned (.plain (OpenSpec.ofChange fnExactPassHopSpec)) fnExactPassHopCard

/-- THE TIED CARD OF 'laws.FnExactPassHops'. -/
def fnExactPassHopsCard : Claim7 := { stood := { row := fnExactPassHopsRow, standIns := [], harness := (true, "a39ac0f07bfd1000b64d9ad6646e76899e9b783ddd2644c02f05597fda506c45"), looks := true }, kinds := [], alts := [], laidByText := true, laidKinds := [.data, .data, .data, .sentinel, .sentinel, .data, .data, .data], laidTests := true, laidLooks := .later }
def FnExactPassHopsCardSaid : Prop := Claim7.holds Tryz.pinned (.plain (OpenSpec.ofChange fnExactPassHopsSpec)) fnExactPassHopsCard

/-- THE TIED CARD OF 'laws.FnExactVariantOf'. -/
def fnExactVariantOfCard : Claim7 := { stood := { row := fnExactVariantOfRow, standIns := [], harness := (true, "a39ac0f07bfd1000b64d9ad6646e76899e9b783ddd2644c02f05597fda506c45"), looks := true }, kinds := [], alts := [], laidByText := true, laidKinds := [.data, .data, .data, .data, .sentinel, .sentinel, .pinned], laidTests := true, laidLooks := .later }
def FnExactVariantOfCardSaid : Prop := Claim7.holds Tryz.pinned (.plain (OpenSpec.ofChange fnExactVariantOfSpec)) fnExactVariantOfCard

/-- THE TIED CARD OF 'laws.FnExactHitsAnswer'. -/
def fnExactHitsAnswerCard : Claim7 := { stood := { row := fnExactHitsAnswerRow, standIns := [], harness := (true, "a39ac0f07bfd1000b64d9ad6646e76899e9b783ddd2644c02f05597fda506c45"), looks := true }, kinds := [], alts := [], laidByText := true, laidKinds := [.data, .data, .data, .data, .sentinel, .sentinel, .pinned, .pinned], laidTests := true, laidLooks := .later }
def FnExactHitsAnswerCardSaid : Prop := Claim7.holds Tryz.pinned (.plain (OpenSpec.ofChange fnExactHitsAnswerSpec)) fnExactHitsAnswerCard

/-- THE SECOND FORM's CARD OF 'laws.FnExactPassHop'. -/
def fnExactPassHopUptoCard : Claim7 := { stood := { row := fnExactPassHopUptoRow, standIns := [], harness := (true, "a39ac0f07bfd1000b64d9ad6646e76899e9b783ddd2644c02f05597fda506c45"), looks := true }, kinds := [], alts := [], laidByText := true, laidKinds := [.data, .data, .data, .sentinel, .sentinel, .data, .data, .data], laidTests := true, laidLooks := .later }
def FnExactPassHopUptoCardSaid : Prop := Claim7.holds Tryz.pinned (.plain (OpenSpec.upto fnExactPassHopSpec)) fnExactPassHopUptoCard

/-- THE SECOND FORM's CARD OF 'laws.FnExactPassHops'. -/
def fnExactPassHopsUptoCard : Claim7 := { stood := { row := fnExactPassHopsUptoRow, standIns := [], harness := (true, "a39ac0f07bfd1000b64d9ad6646e76899e9b783ddd2644c02f05597fda506c45"), looks := true }, kinds := [], alts := [], laidByText := true, laidKinds := [.data, .data, .data, .sentinel, .sentinel, .data, .data, .data], laidTests := true, laidLooks := .later }
def FnExactPassHopsUptoCardSaid : Prop := Claim7.holds Tryz.pinned (.plain (OpenSpec.upto fnExactPassHopsSpec)) fnExactPassHopsUptoCard

/-- THE SECOND FORM's CARD OF 'laws.FnExactVariantOf'. -/
def fnExactVariantOfUptoCard : Claim7 := { stood := { row := fnExactVariantOfUptoRow, standIns := [], harness := (true, "a39ac0f07bfd1000b64d9ad6646e76899e9b783ddd2644c02f05597fda506c45"), looks := true }, kinds := [], alts := [], laidByText := true, laidKinds := [.data, .data, .data, .data, .sentinel, .sentinel, .pinned], laidTests := true, laidLooks := .later }
def FnExactVariantOfUptoCardSaid : Prop := Claim7.holds Tryz.pinned (.plain (OpenSpec.upto fnExactVariantOfSpec)) fnExactVariantOfUptoCard

/-- THE SECOND FORM's CARD OF 'laws.FnExactHitsAnswer'. -/
def fnExactHitsAnswerUptoCard : Claim7 := { stood := { row := fnExactHitsAnswerUptoRow, standIns := [], harness := (true, "a39ac0f07bfd1000b64d9ad6646e76899e9b783ddd2644c02f05597fda506c45"), looks := true }, kinds := [], alts := [], laidByText := true, laidKinds := [.data, .data, .data, .data, .sentinel, .sentinel, .pinned, .pinned], laidTests := true, laidLooks := .later }
def FnExactHitsAnswerUptoCardSaid : Prop := Claim7.holds Tryz.pinned (.plain (OpenSpec.upto fnExactHitsAnswerSpec)) fnExactHitsAnswerUptoCard
end Rows
end Go.Proofs.YtojmkdggkaocdaaGreatDoor
