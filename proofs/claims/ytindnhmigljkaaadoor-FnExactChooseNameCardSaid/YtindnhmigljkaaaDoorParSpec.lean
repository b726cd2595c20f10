/-
  CONTRACT of the model's ParseInt: at every text it answers the number whose decimal numeral the text is, if it lies between 0 and the greatest integer that is read; nothing that was there before is changed.
-/
import Derived.Test.YtindnhmigljkaaaDoorParMath
import Derived.Test.YtindnhmigljkaaaDoorFmtSpec
import Derived.Test.YtindnhmigljkaaaDoorNumIn
import Derived.Test.YtindnhmigljkaaaDoorBase
import Derived.Outline
namespace Go.Proofs.YtindnhmigljkaaaDoor.Par
open Go Go.RowKit
set_option linter.unusedVariables false
set_option maxRecDepth 1000000

theorem list_eq {l : List UInt8} {s : ByteArray} (h : (!l == s.toList) = false) : l = s.data.toList := by
  rw [← Go.ByteArray.toList_eq]
  simpa using h
theorem list_ne {l : List UInt8} {s : ByteArray} (h : (!l == s.toList) = true) : l ≠ s.data.toList := by
  rw [← Go.ByteArray.toList_eq]
  simpa using h
/-- How ParseInt ends. -/
def Parsed (l : List UInt8) (w : World) (e : Ending) (w' : World) : Prop := ∃ v b, PS l v b ∧ e = .returned (.tuple #[.int .i64 v, .bool b]) ∧ Below w.heap.size w w'

end Go.Proofs.YtindnhmigljkaaaDoor.Par
