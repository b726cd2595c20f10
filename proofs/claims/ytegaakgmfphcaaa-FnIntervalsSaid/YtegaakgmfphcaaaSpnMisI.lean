/-
  CONTRACT of the program's MissingSpans: what a span has beside a set of spans, in memory of its own; nothing that was there before is changed.
-/
import Derived.Test.YtegaakgmfphcaaaSpnMisY
import Derived.Test.YtegaakgmfphcaaaSpnMisN
namespace Go.Proofs.Ytegaakgmfphcaaa.Spn
open Go Go.RowKit
set_option linter.unusedVariables false
set_option maxRecDepth 1000000

theorem impl_miss (v : Value) (B : Nat) (l : List T) (p q : Int) (w : World) (h : Holds w B v l) (hB : B ≤ w.heap.size) (hl : l.length ≤ 1048576) :
    Calls Try.prog 8 #[v, .agg #[.int .i64 p, .int .i64 q]] w (Missed (miss l (p, q)) w) := by
  cases hs : isSet l with
  | true => exact impl_miss_yes v B l p q w h hB hl hs
  | false => exact impl_miss_no v B l p q w h hB hl hs
end Go.Proofs.Ytegaakgmfphcaaa.Spn
