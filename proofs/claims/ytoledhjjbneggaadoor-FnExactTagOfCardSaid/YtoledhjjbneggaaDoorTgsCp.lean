/-
  CONTRACTS of the laws' helpers for slices of Tag (written by rec.py): a copy (toTag, toTagS) and the comparison of two that hold the same (eqTag, eqTagS). Nothing that was there before is changed.
-/
import Derived.Test.YtoledhjjbneggaaDoorTgs
import Derived.LoopTactic
import Derived.Outline
import Derived.RegionTactic
import Derived.Deep.RegionWith
namespace Go.Proofs.YtoledhjjbneggaaDoor.Tgs
open Go Go.RowKit
set_option linter.unusedVariables false

def Copied (l : List T) (w : World) (e : Ending) (w' : World) : Prop := ∃ v, e = .returned v ∧ Own w' w.heap.size v l ∧ Below w.heap.size w w'
/-- .. and the slice is not nil. -/
def Copied' (l : List T) (w : World) (e : Ending) (w' : World) : Prop := ∃ v, e = .returned v ∧ Own w' w.heap.size v l ∧ Below w.heap.size w w' ∧ ∃ g cap, v = .slice (some ⟨g, 0, none⟩) l.length cap

theorem eq_one (s0 : Bool) (s1 : ByteArray) (w : World) : Calls Tryd.prog 8 #[.agg #[.bool (s0), .string s1], .agg #[.bool (s0), .string s1]] w (Rec.Yes w) := by
  go_enter Tryd.func8, Tryd.ntmps8
  go_wp2
  go_ret
  exact ⟨rfl, ((Below.refl _ _).alloc (Nat.le_refl _) _).alloc (by simp) _⟩

end Go.Proofs.YtoledhjjbneggaaDoor.Tgs
