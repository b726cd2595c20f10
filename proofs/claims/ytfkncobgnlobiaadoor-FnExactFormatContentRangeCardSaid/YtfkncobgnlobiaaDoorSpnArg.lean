/-
  CONTRACTS of the laws' helpers for slices of Span (written by rec.py): an argument of that type, opened; its size (szSpanS). Nothing that was there before is changed.
-/
import Derived.Test.YtfkncobgnlobiaaDoorSpn
import Derived.LoopTactic
import Derived.Outline
namespace Go.Proofs.YtfkncobgnlobiaaDoor.Spn
open Go Go.RowKit
set_option linter.unusedVariables false

theorem wf_range {n : Int} (h : (Lit.int .i64 n).wf = true) : -9223372036854775808 ≤ n ∧ n ≤ 9223372036854775807 := by
  simp [Lit.wf, IntKind.min, IntKind.max, IntKind.signed, IntKind.bits] at h; omega

/-- What szSpanS answers: not below 0 just where the size is at most what is left. -/
def Sized (l : List T) (left : Int) (w : World) (e : Ending) (w' : World) : Prop := ∃ z : Int, e = .returned (.int .i64 z) ∧ (z < 0 ∨ (0 ≤ z ∧ z + total l = left)) ∧ Below w.heap.size w w'

theorem total_len (l : List T) : total l = l.length := Rec.total_plain l
set_option maxRecDepth 1000000 in
/-- An argument of type laws.Span, opened. -/
theorem open_val {H : Type} {enc : TypeId × Value → H} {W : World} {base : Nat} {v : Value} {d : DataW H} {p : List MemPlace}
    (hok : Value.okWide Tryd.prog W .any base 36 v) (h : DataW.Trod enc Tryd.prog W 0 (fun _ => true) true 36 v d p) : ∃ f : T, v = fv f ∧ Ok f := by
  obtain ⟨cs', rfl, hsz⟩ := WideShapes.okWide_struct Tryd.underlying36 hok
  obtain ⟨fuel, hf⟩ := h
  have celi : Tryd.prog.cellsOf 3 = 1 := by kernel_rfl
  have ce : Tryd.prog.cellsOf 36 = 2 := by kernel_rfl
  obtain ⟨l⟩ := cs'
  obtain ⟨xs, k, hk, hxy, _, hxl, hg⟩ := DataW.trod_struct Tryd.underlying36 hf
  match l, hsz.trans ce, xs, hxl with
  | [v0, v1], _, [y0, y1], _ =>
    have g0 := hg 0 _ rfl
    have g1 := hg 1 _ rfl
    simp [Value.cells, celi] at g0 g1
    obtain ⟨s0, z0, _, o0⟩ := DataW.trod_int Tryd.underlying3 g0
    obtain rfl : v0 = _ := by simpa using z0
    obtain ⟨s1, z1, _, o1⟩ := DataW.trod_int Tryd.underlying3 g1
    obtain rfl : v1 = _ := by simpa using z1
    exact ⟨(s0, s1), by simp [fv], ⟨(wf_range o0), (wf_range o1)⟩⟩
end Go.Proofs.YtfkncobgnlobiaaDoor.Spn
