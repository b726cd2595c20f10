/-
  CONTRACTS of the laws' helpers for slices of Tag (written by rec.py): an argument of that type, opened; its size (szTagS). Nothing that was there before is changed.
-/
import Derived.Test.YteibanoohoipdaaTgs
import Derived.LoopTactic
import Derived.Outline
namespace Go.Proofs.Yteibanoohoipdaa.Tgs
open Go Go.RowKit
set_option linter.unusedVariables false

theorem wf_range {n : Int} (h : (Lit.int .i64 n).wf = true) : -9223372036854775808 ≤ n ∧ n ≤ 9223372036854775807 := by
  simp [Lit.wf, IntKind.min, IntKind.max, IntKind.signed, IntKind.bits] at h; omega

/-- What szTagS answers: not below 0 just where the size is at most what is left. -/
def Sized (l : List T) (left : Int) (w : World) (e : Ending) (w' : World) : Prop := ∃ z : Int, e = .returned (.int .i64 z) ∧ (z < 0 ∨ (0 ≤ z ∧ z + total l = left)) ∧ Below w.heap.size w w'

set_option maxHeartbeats 1000000 in
theorem size_one (f : T) (left : Int) (w : World) (hok : Ok f) (h0 : 0 ≤ left) (h3 : left ≤ 1048576) :
    Calls Try.prog 8 #[fv f, .int .i64 left] w fun e w' => ∃ z : Int, e = .returned (.int .i64 z) ∧ (z < 0 ∨ (0 ≤ z ∧ z + ((f.2.length : Int)) = left)) ∧ Below w.heap.size w w' := by
  obtain ⟨x, y⟩ := f
  unfold Ok maxLen at hok
  dsimp only at hok
  unfold fv
  dsimp only
  have hsy : (⟨y.toArray⟩ : ByteArray).size = y.length := by simp [ByteArray.size]
  have HB := Lib.hid ((Below.refl w.heap.size w).alloc (Nat.le_refl _) (.cells #[.bool (x), .string ⟨(y).toArray⟩] 23))
  by_cases hn0 : left - (y.length : Int) < 0
  · go_enter Try.func8, Try.ntmps8
    go_wp2
    go_ret
    exact ⟨_, rfl, Or.inl (by omega), HB.out⟩
  · go_enter Try.func8, Try.ntmps8
    go_wp2
    go_ret
    exact ⟨_, rfl, Or.inr ⟨by omega, by omega⟩, HB.out⟩
theorem size_two (x : Bool) (y : List UInt8) (left : Int) (w : World) (hok : Ok (x, y)) (h0 : 0 ≤ left) (h3 : left ≤ 1048576) :
    Calls Try.prog 8 #[.agg #[.bool (x), .string ⟨(y).toArray⟩], .int .i64 left] w fun e w' => ∃ z : Int, e = .returned (.int .i64 z) ∧ (z < 0 ∨ (0 ≤ z ∧ z + ((y.length : Nat) : Int) = left)) ∧ Below w.heap.size w w' := by
  refine (size_one (x, y) left w hok h0 h3).mono ?_
  rintro e w' ⟨z, rfl, hz, hb⟩
  dsimp only at hz
  exact ⟨z, rfl, by omega, hb⟩

def pre (l : List T) (k : Nat) : Nat := Rec.pre wt l k
/-- An argument of type laws.Tag, opened. -/
theorem open_val {H : Type} {enc : TypeId × Value → H} {W : World} {base : Nat} {v : Value} {d : DataW H} {p : List MemPlace}
    (hok : Value.okWide Try.prog W .any base 23 v) (h : DataW.Trod enc Try.prog W 0 (fun _ => true) true 23 v d p) : ∃ f : T, v = fv f ∧ Ok f := by
  obtain ⟨cs', rfl, hsz⟩ := WideShapes.okWide_struct Try.underlying23 hok
  obtain ⟨fuel, hf⟩ := h
  have celb : Try.prog.cellsOf 4 = 1 := by kernel_rfl
  have cels : Try.prog.cellsOf 9 = 1 := by kernel_rfl
  have ce : Try.prog.cellsOf 23 = 2 := by kernel_rfl
  obtain ⟨l⟩ := cs'
  obtain ⟨xs, k, hk, hxy, _, hxl, hg⟩ := DataW.trod_struct Try.underlying23 hf
  match l, hsz.trans ce, xs, hxl with
  | [v0, v1], _, [y0, y1], _ =>
    have g0 := hg 0 _ rfl
    have g1 := hg 1 _ rfl
    simp [Value.cells, celb, cels] at g0 g1
    obtain ⟨s0, z0, _⟩ := DataW.trod_bool Try.underlying4 g0
    obtain rfl : v0 = _ := by simpa using z0
    obtain ⟨s1, z1, _, o1⟩ := DataW.trod_string Try.underlying9 g1
    obtain rfl : v1 = _ := by simpa using z1
    exact ⟨(s0, s1.data.toList), by simp [fv], (by show s1.data.toList.length ≤ maxLen; rw [Array.length_toList]; exact o1)⟩
end Go.Proofs.Yteibanoohoipdaa.Tgs
