/-
  CONTRACT of the program's FormatInt: at every integer of 64 bits, where the library's table of powers of ten reads as it is written, it returns the decimal numeral; nothing that was there before is changed.
-/
import Derived.Test.YtindnhmigljkaaaDoorBase
import Derived.Test.YtindnhmigljkaaaDoorShelf
namespace Go.Proofs.YtindnhmigljkaaaDoor.Fmt
open Go Go.RowKit
set_option linter.unusedVariables false
set_option maxRecDepth 1000000

/-- The library's table of powers of ten, as it is written. -/
def Tens (w : World) : Prop := Lib.TabIs Tryd.prog w "internal/strconv.uint64pow10" .u64 Lib.pow10Tab
theorem tens_below {W w1 : World} (h : Tens W) (hb : Below W.heap.size W w1) : Tens w1 := Base.var_below h hb

end Go.Proofs.YtindnhmigljkaaaDoor.Fmt
