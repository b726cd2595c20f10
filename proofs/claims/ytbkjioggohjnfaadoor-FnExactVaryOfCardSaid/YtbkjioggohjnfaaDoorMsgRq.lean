/-
  CONTRACTS of the laws' helpers for a Request: an argument of that type, opened; its size (szRequest), a copy (toRequest), the comparison of two that hold the same (eqRequest). Nothing that was there before is changed.
-/
import Derived.Test.YtbkjioggohjnfaaDoorMsgRs
import Derived.Test.YtbkjioggohjnfaaDoorKept
namespace Go.Proofs.YtbkjioggohjnfaaDoor.Msg
open Go Go.RowKit
set_option linter.unusedVariables false
set_option maxRecDepth 1000000

def Ok_req (m h t : List UInt8) (l : List F) : Prop := m.length ≤ maxLen ∧ h.length ≤ maxLen ∧ t.length ≤ maxLen ∧ FOk l

def CopiedQ (m ho t : List UInt8) (l : List F) (w : World) (e : Ending) (w' : World) : Prop := ∃ v, e = .returned (.agg #[.string ⟨m.toArray⟩, .string ⟨ho.toArray⟩, .string ⟨t.toArray⟩, v]) ∧ Flds.Own w' w.heap.size v l ∧ Below w.heap.size w w'
end Go.Proofs.YtbkjioggohjnfaaDoor.Msg
