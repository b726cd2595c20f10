/-
  CONTRACTS AND PLAIN FACTS, several texts in one; each says in its own words what it proves.
-/
import Derived.Test.YtojmkdggkaocdaaGreatDoorPqA
import Derived.Carry
import Derived.Test.YtojmkdggkaocdaaGreatDoorPqC
import Derived.Test.YtojmkdggkaocdaaGreatDoorPqD
import Derived.Test.YtojmkdggkaocdaaGreatDoorPqV
import Derived.Test.YtojmkdggkaocdaaGreatDoorPqW
import Derived.Test.YtojmkdggkaocdaaGreatDoorPqN
import Derived.Test.YtojmkdggkaocdaaGreatDoorPqO
import Derived.Test.YtojmkdggkaocdaaGreatDoorTie
import Derived.Test.YtojmkdggkaocdaaGreatDoorCards
import Derived.LaidMore
import Derived.Lay
import Derived.OpenVars
import Derived.Stop.LaidErr
import Derived.Deep.DeepCutAuto
import Derived.RegionTactic
import Derived.Deep.RegionHeldLaw
import Derived.Deep.RegionHeld3
set_option linter.unusedSimpArgs false
set_option linter.unusedVariables false

/-
  PROVED: what the row of PassHop says of its program, read off piece by piece (whole it outgrows the kernel's memory). Mine.
-/
namespace Go.Proofs.YtojmkdggkaocdaaGreatDoor.fnExactPassHop
open Go.ChangeShapes Go.WideShapes Go.ChangeAt Go.RowKit
set_option linter.unusedVariables false
set_option maxRecDepth 1000000

theorem fact_inPlace : (Rows.fnExactPassHopRow.inPlace == Tryz.prog.inPlace 3) = true := by kernel_rfl

theorem fact_unfollowed : (Rows.fnExactPassHopRow.unfollowed == Tryz.prog.unfollowed 3) = true := by kernel_rfl

theorem fact_recurses : (Rows.fnExactPassHopRow.recurses == Tryz.prog.recurses 3) = true := by kernel_rfl

theorem fact_varsNamed : (Rows.fnExactPassHopRow.named == Tryz.prog.varsNamed 3) = true := by kernel_rfl

theorem facts : joinedFacts Tryz.prog 3 Tryz.f3 Rows.fnExactPassHopSpec Rows.fnExactPassHopRow = true := by
  unfold joinedFacts
  rw [fact_inPlace, fact_unfollowed, fact_recurses, fact_varsNamed]
  kernel_rfl

end Go.Proofs.YtojmkdggkaocdaaGreatDoor.fnExactPassHop
