/-
  CONTRACT of the program's JoinList: at every slice of texts that are not too long together it returns the texts with a comma and a space between them; nothing that was there before is changed.
-/
import Derived.Test.YtikpolmnadmkoaaDoorJoinM
import Derived.Test.YtikpolmnadmkoaaDoorShelf
namespace Go.Proofs.YtikpolmnadmkoaaDoor.Tx
open Go Go.RowKit Strs
set_option linter.unusedVariables false

end Go.Proofs.YtikpolmnadmkoaaDoor.Tx
