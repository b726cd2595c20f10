/-
  CONTRACTS of the laws' helpers for slices of Span (written by rec.py): a copy (toSpan, toSpanS) and the comparison of two that hold the same (eqSpan, eqSpanS). Nothing that was there before is changed.
-/
import Derived.Test.YtmfgflbbojaghaaDoorSpn
import Derived.LoopTactic
import Derived.Outline
import Derived.RegionTactic
import Derived.Deep.RegionWith
namespace Go.Proofs.YtmfgflbbojaghaaDoor.Spn
open Go Go.RowKit
set_option linter.unusedVariables false

def Copied (l : List T) (w : World) (e : Ending) (w' : World) : Prop := ∃ v, e = .returned v ∧ Own w' w.heap.size v l ∧ Below w.heap.size w w'
/-- .. and the slice is not nil. -/
def Copied' (l : List T) (w : World) (e : Ending) (w' : World) : Prop := ∃ v, e = .returned v ∧ Own w' w.heap.size v l ∧ Below w.heap.size w w' ∧ ∃ g cap, v = .slice (some ⟨g, 0, none⟩) l.length cap

theorem eq_one (s0 : Int) (s1 : Int) (w : World) : Calls Tryd.prog 6 #[.agg #[.int .i64 (s0), .int .i64 (s1)], .agg #[.int .i64 (s0), .int .i64 (s1)]] w (Rec.Yes w) := by
  go_enter Tryd.func6, Tryd.ntmps6
  go_wp2
  go_ret
  exact ⟨rfl, ((Below.refl _ _).alloc (Nat.le_refl _) _).alloc (by simp) _⟩

end Go.Proofs.YtmfgflbbojaghaaDoor.Spn
