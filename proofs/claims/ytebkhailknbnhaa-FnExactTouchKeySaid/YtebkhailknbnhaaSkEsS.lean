/-
  CONTRACT of the model's EstimateKey; nothing that was there before is changed.
-/
import Derived.Test.YtebkhailknbnhaaSkEst
namespace Go.Proofs.Ytebkhailknbnhaa.Sk
open Go Go.RowKit
set_option linter.unusedVariables false
set_option maxRecDepth 1000000

end Go.Proofs.Ytebkhailknbnhaa.Sk
