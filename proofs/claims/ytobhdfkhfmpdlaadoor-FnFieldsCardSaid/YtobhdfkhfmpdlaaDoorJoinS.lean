/-
  CONTRACT of the model's JoinList: at every slice of texts that are not too long together it returns the texts with a comma and a space between them; nothing that was there before is changed.
-/
import Derived.Test.YtobhdfkhfmpdlaaDoorJoinM
import Derived.LoopTactic
namespace Go.Proofs.YtobhdfkhfmpdlaaDoor.Tx
open Go Go.RowKit Strs
set_option linter.unusedVariables false
set_option maxRecDepth 1000000

end Go.Proofs.YtobhdfkhfmpdlaaDoor.Tx
