/-
  DERIVED. GIVEN WITH THE SEED: THE CARDS: each row of YtndbhjgfaghelaaGreatDoorRows.lean that lists a variable, with what it lists TIED to the program's text (the seventh form; the later family's looks); each row that meets fmt, with fmt's text TOLD by the authors' own Lean function (tested against real Go, not proved from fmt's source: count such statements apart). THE CARD IS WHAT COUNTS. Prove the row's statement (the work); the ties are given (YtndbhjgfaghelaaGreatDoorTie.lean); close each card by the builder's one call (the guide's Derived/Test/ToyasCard.lean, 'card_holds'). Laid BY PROGRAM, IN A SANDBOX (cutbox-door.mjs). By AI agents, Wed Nov 11 2026. No macro, syntax, notation, axiom, sorry.
-/
import Derived.Test.YtndbhjgfaghelaaGreatDoorRows
import GoSem.ClaimSeven
namespace Go.Proofs.YtndbhjgfaghelaaGreatDoor
namespace Rows

/-- THE TIED CARD OF 'laws.FnAges'. -/
def fnAgesCard : Claim7 := { stood := { row := fnAgesRow, standIns := [], harness := (true, "60cec45ba4e3f83978ae137ae5e2ed53fd3ac4d26f888d6ced4086caa57608b4"), looks := true }, kinds := [], alts := [], laidByText := true, laidKinds := [.data, .data, .data, .sentinel, .sentinel, .data, .data, .data], laidTests := true, laidLooks := .later }
def FnAgesCardSaid : Prop := Claim7.holds Tryz.pinned (.plain (OpenSpec.ofChange fnAgesSpec)) fnAgesCard

/-- THE TIED CARD OF 'laws.FnLifetimes'. -/
def fnLifetimesCard : Claim7 := { stood := { row := fnLifetimesRow, standIns := [], harness := (true, "60cec45ba4e3f83978ae137ae5e2ed53fd3ac4d26f888d6ced4086caa57608b4"), looks := true }, kinds := [], alts := [], laidByText := true, laidKinds := [.data, .data, .data, .data, .data, .data, .data, .sentinel, .sentinel, .pinned], laidTests := true, laidLooks := .later }
def FnLifetimesCardSaid : Prop := Claim7.holds Tryz.pinned (.plain (OpenSpec.ofChange fnLifetimesSpec)) fnLifetimesCard

/-- THE TIED CARD OF 'laws.FnPlans'. -/
def fnPlansCard : Claim7 := { stood := { row := fnPlansRow, standIns := [], harness := (true, "60cec45ba4e3f83978ae137ae5e2ed53fd3ac4d26f888d6ced4086caa57608b4"), looks := true }, kinds := [], alts := [], laidByText := true, laidKinds := [.data, .sentinel, .sentinel, .pinned], laidTests := true, laidLooks := .later }
def FnPlansCardSaid : Prop := Claim7.holds Tryz.pinned (.plain (OpenSpec.ofChange fnPlansSpec)) fnPlansCard

/-- THE TIED CARD OF 'laws.FnExactIsOrigin'. -/
def fnExactIsOriginCard : Claim7 := { stood := { row := fnExactIsOriginRow, standIns := [], harness := (true, "60cec45ba4e3f83978ae137ae5e2ed53fd3ac4d26f888d6ced4086caa57608b4"), looks := true }, kinds := [], alts := [], laidByText := true, laidKinds := [.data, .data, .data, .data, .sentinel, .sentinel, .pinned, .pinned], laidTests := true, laidLooks := .later }
def FnExactIsOriginCardSaid : Prop := Claim7.holds Tryz.pinned (.plain (OpenSpec.ofChange fnExactIsOriginSpec)) fnExactIsOriginCard

/-- THE SECOND FORM's CARD OF 'laws.FnAges'. -/
def fnAgesUptoCard : Claim7 := { stood := { row := fnAgesUptoRow, standIns := [], harness := (true, "60cec45ba4e3f83978ae137ae5e2ed53fd3ac4d26f888d6ced4086caa57608b4"), looks := true }, kinds := [], alts := [], laidByText := true, laidKinds := [.data, .data, .data, .sentinel, .sentinel, .data, .data, .data], laidTests := true, laidLooks := .later }
def FnAgesUptoCardSaid : Prop := Claim7.holds Tryz.pinned (.plain (OpenSpec.upto fnAgesSpec)) fnAgesUptoCard

/-- THE SECOND FORM's CARD OF 'laws.FnLifetimes'. -/
def fnLifetimesUptoCard : Claim7 := { stood := { row := fnLifetimesUptoRow, standIns := [], harness := (true, "60cec45ba4e3f83978ae137ae5e2ed53fd3ac4d26f888d6ced4086caa57608b4"), looks := true }, kinds := [], alts := [], laidByText := true, laidKinds := [.data, .data, .data, .data, .data, .data, .data, .sentinel, .sentinel, .pinned], laidTests := true, laidLooks := .later }
def FnLifetimesUptoCardSaid : Prop := Claim7.holds Tryz.pinned (.plain (OpenSpec.upto fnLifetimesSpec)) fnLifetimesUptoCard

/-- THE SECOND FORM's CARD OF 'laws.FnPlans'. -/
def fnPlansUptoCard : Claim7 := { stood := { row := fnPlansUptoRow, standIns := [], harness := (true, "60cec45ba4e3f83978ae137ae5e2ed53fd3ac4d26f888d6ced4086caa57608b4"), looks := true }, kinds := [], alts := [], laidByText := true, laidKinds := [.data, .sentinel, .sentinel, .pinned], laidTests := true, laidLooks := .later }
def FnPlansUptoCardSaid : Prop := Claim7.holds Tryz.pinned (.plain (OpenSpec.upto fnPlansSpec)) fnPlansUptoCard

/-- THE SECOND FORM's CARD OF 'laws.FnExactIsOrigin'. -/
def fnExactIsOriginUptoCard : Claim7 := { stood := { row := fnExactIsOriginUptoRow, standIns := [], harness := (true, "60cec45ba4e3f83978ae137ae5e2ed53fd3ac4d26f888d6ced4086caa57608b4"), looks := true }, kinds := [], alts := [], laidByText := true, laidKinds := [.data, .data, .data, .data, .sentinel, .sentinel, .pinned, .pinned], laidTests := true, laidLooks := .later }
def FnExactIsOriginUptoCardSaid : Prop := Claim7.holds Tryz.pinned (.plain (OpenSpec.upto fnExactIsOriginSpec)) fnExactIsOriginUptoCard
end Rows
end Go.Proofs.YtndbhjgfaghelaaGreatDoor
