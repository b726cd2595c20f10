/-
  CONTRACTS of the laws' helpers for slices of fields: a copy (toField, toFieldS). Nothing that was there before is changed.
-/
import Derived.Test.YteheejhafkcclaaDoorFldTot
import Derived.LoopTactic
import Derived.Outline
namespace Go.Proofs.YteheejhafkcclaaDoor.Flds
open Go Go.RowKit
set_option linter.unusedVariables false

def Copied (l : List Fld) (w : World) (e : Ending) (w' : World) : Prop := ∃ v, e = .returned v ∧ Own w' w.heap.size v l ∧ Below w.heap.size w w'
/-- .. and the slice is not nil. -/
def Copied' (l : List Fld) (w : World) (e : Ending) (w' : World) : Prop := ∃ v, e = .returned v ∧ Own w' w.heap.size v l ∧ Below w.heap.size w w' ∧ ∃ g cap, v = .slice (some ⟨g, 0, none⟩) l.length cap

end Go.Proofs.YteheejhafkcclaaDoor.Flds
