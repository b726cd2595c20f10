/-
  CONTRACTS of the laws' helpers for slices of Tag (written by rec.py): a copy (toTag, toTagS) and the comparison of two that hold the same (eqTag, eqTagS). Nothing that was there before is changed.
-/
import Derived.Test.YteibanoohoipdaaTgs
import Derived.LoopTactic
import Derived.Outline
import Derived.RegionTactic
import Derived.Deep.RegionWith
namespace Go.Proofs.Yteibanoohoipdaa.Tgs
open Go Go.RowKit
set_option linter.unusedVariables false

theorem copy_one (f : T) (w : World) : Calls Try.prog 10 #[fv f] w fun e w' => e = .returned (fv f) ∧ Below w.heap.size w w' := by
  obtain ⟨x, y⟩ := f
  unfold fv
  dsimp only
  obtain ⟨s1, hs1⟩ : ∃ z : ByteArray, z = ⟨y.toArray⟩ := ⟨_, rfl⟩
  rw [← hs1]
  clear hs1
  go_enter Try.func10, Try.ntmps10
  go_wp2
  refine bodyPost_ret (v := .agg #[.bool (x), .string s1]) (by simp [results, Try.results10, go_sem]) rfl ⟨rfl, ?_⟩
  exact (((Below.refl _ _).alloc (Nat.le_refl _) _).alloc (by simp) _).alloc (by simp; omega) _
theorem copy_two (x : Bool) (y : List UInt8) (w : World) : Calls Try.prog 10 #[.agg #[.bool (x), .string ⟨(y).toArray⟩]] w fun e w' => e = .returned (.agg #[.bool (x), .string ⟨(y).toArray⟩]) ∧ Below w.heap.size w w' := copy_one (x, y) w

def Copied (l : List T) (w : World) (e : Ending) (w' : World) : Prop := ∃ v, e = .returned v ∧ Own w' w.heap.size v l ∧ Below w.heap.size w w'
/-- .. and the slice is not nil. -/
def Copied' (l : List T) (w : World) (e : Ending) (w' : World) : Prop := ∃ v, e = .returned v ∧ Own w' w.heap.size v l ∧ Below w.heap.size w w' ∧ ∃ g cap, v = .slice (some ⟨g, 0, none⟩) l.length cap

theorem eq_one (s0 : Bool) (s1 : ByteArray) (w : World) : Calls Try.prog 20 #[.agg #[.bool (s0), .string s1], .agg #[.bool (s0), .string s1]] w (Rec.Yes w) := by
  go_enter Try.func20, Try.ntmps20
  go_wp2
  go_ret
  exact ⟨rfl, ((Below.refl _ _).alloc (Nat.le_refl _) _).alloc (by simp) _⟩

end Go.Proofs.Yteibanoohoipdaa.Tgs
