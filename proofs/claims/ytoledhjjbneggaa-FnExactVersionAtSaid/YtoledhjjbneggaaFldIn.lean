/-
  A SLICE OF FIELDS that stands in one cell of a struct (as in a request or a response), opened.
-/
import Derived.Test.YtoledhjjbneggaaFldArg
namespace Go.Proofs.Ytoledhjjbneggaa.Flds
open Go Go.RowKit
set_option linter.unusedVariables false

end Go.Proofs.Ytoledhjjbneggaa.Flds
