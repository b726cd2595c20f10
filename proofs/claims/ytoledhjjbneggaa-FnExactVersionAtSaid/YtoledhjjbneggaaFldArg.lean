/-
  CONTRACTS of the laws' helpers for slices of fields: an argument of that type, opened; its size (szFieldS). Nothing that was there before is changed.
-/
import Derived.Test.YtoledhjjbneggaaFldTot
import Derived.LoopTactic
import Derived.Outline
import Derived.Deep.SlicePairs
namespace Go.Proofs.Ytoledhjjbneggaa.Flds
open Go Go.RowKit
set_option linter.unusedVariables false

theorem trod_text {H : Type} {enc : TypeId × Value → H} {W : World} {n : Nat} {sp : Nat → Bool} {v : Value} {x : DataW H × List MemPlace} (h : DataW.trod enc Try.prog W 0 sp true n 9 [v] = some x) : ∃ s : ByteArray, v = .string s ∧ s.size ≤ maxLen := by
  obtain ⟨s, h1, h2, h3⟩ := DataW.trod_string Try.underlying9 h
  exact ⟨s, by simpa using h1, h3⟩

/-- What szFieldS answers: not below 0 just where the size is at most what is left. -/
def Sized (l : List Fld) (left : Int) (w : World) (e : Ending) (w' : World) : Prop := ∃ z : Int, e = .returned (.int .i64 z) ∧ (z < 0 ∨ (0 ≤ z ∧ z + total l = left)) ∧ Below w.heap.size w w'

end Go.Proofs.Ytoledhjjbneggaa.Flds
