/-
  CONTRACTS AND PLAIN FACTS, several texts in one; each says in its own words what it proves.
-/
import Derived.Test.YtndbhjgfaghelaaGreatDoorPartA
import Derived.Carry
import Derived.Test.YtndbhjgfaghelaaGreatDoorPartU
import Derived.Test.YtndbhjgfaghelaaGreatDoorPartX
import Derived.Test.YtndbhjgfaghelaaGreatDoorPartL
import Derived.Test.YtndbhjgfaghelaaGreatDoorTie
import Derived.Test.YtndbhjgfaghelaaGreatDoorCards
import Derived.LaidMore
import Derived.Lay
import Derived.OpenVars
import Derived.Stop.LaidErr
import Derived.RegionTactic
import Derived.Deep.RegionWith
set_option linter.unusedSimpArgs false
set_option linter.unusedVariables false

/-
  PROVED: what the row of IsOrigin says of its program, read off piece by piece (whole it outgrows the kernel's memory). Mine.
-/
namespace Go.Proofs.YtndbhjgfaghelaaGreatDoor.fnExactIsOrigin
open Go.ChangeShapes Go.WideShapes Go.ChangeAt Go.RowKit
set_option linter.unusedVariables false
set_option maxRecDepth 1000000

theorem fact_inPlace : (Rows.fnExactIsOriginRow.inPlace == Tryz.prog.inPlace 6) = true := by kernel_rfl

theorem fact_unfollowed : (Rows.fnExactIsOriginRow.unfollowed == Tryz.prog.unfollowed 6) = true := by kernel_rfl

theorem fact_recurses : (Rows.fnExactIsOriginRow.recurses == Tryz.prog.recurses 6) = true := by kernel_rfl

theorem fact_varsNamed : (Rows.fnExactIsOriginRow.named == Tryz.prog.varsNamed 6) = true := by kernel_rfl

theorem facts : joinedFacts Tryz.prog 6 Tryz.f6 Rows.fnExactIsOriginSpec Rows.fnExactIsOriginRow = true := by
  unfold joinedFacts
  rw [fact_inPlace, fact_unfollowed, fact_recurses, fact_varsNamed]
  kernel_rfl

end Go.Proofs.YtndbhjgfaghelaaGreatDoor.fnExactIsOrigin
