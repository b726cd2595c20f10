/-
  CONTRACTS AND PLAIN FACTS, several texts in one; each says in its own words what it proves.
-/
import Derived.Test.YtidmppphlcfpjaaGreatDoorPqA
import Derived.Carry
import Derived.Test.YtidmppphlcfpjaaGreatDoorPqB
import Derived.Test.YtidmppphlcfpjaaGreatDoorPqC
import Derived.Test.YtidmppphlcfpjaaGreatDoorPqAD
import Derived.Test.YtidmppphlcfpjaaGreatDoorPqAE
import Derived.Test.YtidmppphlcfpjaaGreatDoorPqS
import Derived.Test.YtidmppphlcfpjaaGreatDoorPqY
import Derived.Test.YtidmppphlcfpjaaGreatDoorPqL
import Derived.Test.YtidmppphlcfpjaaGreatDoorTie
import Derived.Test.YtidmppphlcfpjaaGreatDoorCards
import Derived.LaidMore
import Derived.Lay
import Derived.OpenVars
import Derived.Stop.LaidErr
import Derived.RegionTactic
import Derived.Deep.RegionHeldLaw
set_option linter.unusedSimpArgs false
set_option linter.unusedVariables false

/-
  PROVED: what the row of LifeUnder says of its program, read off piece by piece (whole it outgrows the kernel's memory). Mine.
-/
namespace Go.Proofs.YtidmppphlcfpjaaGreatDoor.fnExactLifeUnder
open Go.ChangeShapes Go.WideShapes Go.ChangeAt Go.RowKit
set_option linter.unusedVariables false
set_option maxRecDepth 1000000

theorem fact_inPlace : (Rows.fnExactLifeUnderRow.inPlace == Tryz.prog.inPlace 5) = true := by kernel_rfl

theorem fact_unfollowed : (Rows.fnExactLifeUnderRow.unfollowed == Tryz.prog.unfollowed 5) = true := by kernel_rfl

theorem fact_recurses : (Rows.fnExactLifeUnderRow.recurses == Tryz.prog.recurses 5) = true := by kernel_rfl

theorem fact_varsNamed : (Rows.fnExactLifeUnderRow.named == Tryz.prog.varsNamed 5) = true := by kernel_rfl

theorem facts : joinedFacts Tryz.prog 5 Tryz.f5 Rows.fnExactLifeUnderSpec Rows.fnExactLifeUnderRow = true := by
  unfold joinedFacts
  rw [fact_inPlace, fact_unfollowed, fact_recurses, fact_varsNamed]
  kernel_rfl

end Go.Proofs.YtidmppphlcfpjaaGreatDoor.fnExactLifeUnder
