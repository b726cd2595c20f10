/-
  CONTRACTS of the laws' helpers for slices of Span (written by rec.py): an argument of that type, opened; its size (szSpanS). Nothing that was there before is changed.
-/
import Derived.Test.YtmfgflbbojaghaaDoorSpn
import Derived.LoopTactic
import Derived.Outline
namespace Go.Proofs.YtmfgflbbojaghaaDoor.Spn
open Go Go.RowKit
set_option linter.unusedVariables false

theorem wf_range {n : Int} (h : (Lit.int .i64 n).wf = true) : -9223372036854775808 ≤ n ∧ n ≤ 9223372036854775807 := by
  simp [Lit.wf, IntKind.min, IntKind.max, IntKind.signed, IntKind.bits] at h; omega

/-- What szSpanS answers: not below 0 just where the size is at most what is left. -/
def Sized (l : List T) (left : Int) (w : World) (e : Ending) (w' : World) : Prop := ∃ z : Int, e = .returned (.int .i64 z) ∧ (z < 0 ∨ (0 ≤ z ∧ z + total l = left)) ∧ Below w.heap.size w w'

theorem total_len (l : List T) : total l = l.length := Rec.total_plain l
end Go.Proofs.YtmfgflbbojaghaaDoor.Spn
