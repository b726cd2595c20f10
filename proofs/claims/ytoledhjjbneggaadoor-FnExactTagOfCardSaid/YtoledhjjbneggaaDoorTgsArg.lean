/-
  CONTRACTS of the laws' helpers for slices of Tag (written by rec.py): an argument of that type, opened; its size (szTagS). Nothing that was there before is changed.
-/
import Derived.Test.YtoledhjjbneggaaDoorTgs
import Derived.LoopTactic
import Derived.Outline
namespace Go.Proofs.YtoledhjjbneggaaDoor.Tgs
open Go Go.RowKit
set_option linter.unusedVariables false

theorem wf_range {n : Int} (h : (Lit.int .i64 n).wf = true) : -9223372036854775808 ≤ n ∧ n ≤ 9223372036854775807 := by
  simp [Lit.wf, IntKind.min, IntKind.max, IntKind.signed, IntKind.bits] at h; omega

/-- What szTagS answers: not below 0 just where the size is at most what is left. -/
def Sized (l : List T) (left : Int) (w : World) (e : Ending) (w' : World) : Prop := ∃ z : Int, e = .returned (.int .i64 z) ∧ (z < 0 ∨ (0 ≤ z ∧ z + total l = left)) ∧ Below w.heap.size w w'

def pre (l : List T) (k : Nat) : Nat := Rec.pre wt l k
end Go.Proofs.YtoledhjjbneggaaDoor.Tgs
