/-
  CONTRACTS AND PLAIN FACTS, several texts in one; each says in its own words what it proves.
-/
import Derived.Test.YtojmkdggkaocdaaGreatDoorPvA
import Derived.Carry
import Derived.Test.YtojmkdggkaocdaaGreatDoorPvZ
import Derived.Test.YtojmkdggkaocdaaGreatDoorPvF
import Derived.Test.YtojmkdggkaocdaaGreatDoorPvAP
import Derived.Test.YtojmkdggkaocdaaGreatDoorPvY
import Derived.Test.YtojmkdggkaocdaaGreatDoorPvR
import Derived.Test.YtojmkdggkaocdaaGreatDoorTie
import Derived.Test.YtojmkdggkaocdaaGreatDoorCards
import Derived.LaidMore
import Derived.Lay
import Derived.OpenVars
import Derived.Stop.LaidErr
import Derived.RegionTactic
import Derived.Deep.RegionHeldLaw

/-
  PROVED: what the row of HitsAnswer says of its program, read off piece by piece (whole it outgrows the kernel's memory). Mine.
-/
namespace Go.Proofs.YtojmkdggkaocdaaGreatDoor.fnExactHitsAnswer
open Go.ChangeShapes Go.WideShapes Go.ChangeAt Go.RowKit
set_option linter.unusedVariables false
set_option maxRecDepth 1000000

theorem fact_inPlace : (Rows.fnExactHitsAnswerRow.inPlace == Tryz.prog.inPlace 6) = true := by kernel_rfl

theorem fact_unfollowed : (Rows.fnExactHitsAnswerRow.unfollowed == Tryz.prog.unfollowed 6) = true := by kernel_rfl

theorem fact_recurses : (Rows.fnExactHitsAnswerRow.recurses == Tryz.prog.recurses 6) = true := by kernel_rfl

theorem fact_named : (Rows.fnExactHitsAnswerRow.named == Tryz.prog.varsNamed 6) = true := by kernel_rfl

theorem facts : joinedFacts Tryz.prog 6 Tryz.f6 Rows.fnExactHitsAnswerSpec Rows.fnExactHitsAnswerRow = true := by
  unfold joinedFacts
  rw [fact_inPlace, fact_unfollowed, fact_recurses, fact_named]
  kernel_rfl

end Go.Proofs.YtojmkdggkaocdaaGreatDoor.fnExactHitsAnswer
