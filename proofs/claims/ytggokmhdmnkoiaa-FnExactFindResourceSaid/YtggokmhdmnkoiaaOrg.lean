/-
  CONTRACTS of the laws' helpers for a Origin (written by stk.py): an argument of that type, opened; its size, the comparison of two that hold the same. Nothing that was there before is changed.
-/
import Derived.Test.YtggokmhdmnkoiaaMsgRs
import Derived.Test.YtggokmhdmnkoiaaMsgRq
import Derived.Test.YtggokmhdmnkoiaaBox
import Derived.Test.YtggokmhdmnkoiaaRsl
import Derived.Test.YtggokmhdmnkoiaaRslCp
import Derived.LoopTactic
import Derived.Outline
namespace Go.Proofs.Ytggokmhdmnkoiaa.Org
open Go Go.RowKit
set_option linter.unusedVariables false
set_option maxRecDepth 1000000
set_option maxRecDepth 1000000

def Ok (h : List UInt8) (l : List Rsl.T) : Prop := h.length ≤ maxLen ∧ (l.length ≤ maxLen ∧ ∀ f ∈ l, Rsl.Ok1 f)
def tot (h : List UInt8) (l : List Rsl.T) : Nat := h.length + Rsl.total l
/-- An argument of type laws.Origin, opened. -/
theorem open_org {H : Type} {enc : TypeId × Value → H} {W : World} {base : Nat} {v : Value} {d : DataW H} {p : List MemPlace}
    (hok : Value.okWide Try.prog W .any base 40 v) (h : DataW.Trod enc Try.prog W 0 (fun _ => true) true 40 v d p) :
    ∃ (h : List UInt8) (u : Value) (l : List Rsl.T), v = .agg #[.string ⟨h.toArray⟩, u] ∧ Rsl.Holds W W.heap.size u l ∧ Ok h l := by
  obtain ⟨cs', rfl, hsz⟩ := WideShapes.okWide_struct Try.underlying40 hok
  obtain ⟨fuel, hf⟩ := h
  have cels : Try.prog.cellsOf 9 = 1 := by kernel_rfl
  have celResource : Try.prog.cellsOf 38 = 1 := by kernel_rfl
  have ce : Try.prog.cellsOf 40 = 2 := by kernel_rfl
  obtain ⟨l⟩ := cs'
  obtain ⟨xs, kk, hk, hxy, _, hxl, hg⟩ := DataW.trod_struct Try.underlying40 hf
  match l, hsz.trans ce, xs, hxl with
  | [v0, v1], _, [y0, y1], _ =>
    have g0 := hg 0 _ rfl
    have g1 := hg 1 _ rfl
    simp [Value.cells, cels, celResource] at g0 g1
    obtain ⟨i0, rfl, o0⟩ := Msg.open_text g0
    obtain ⟨u1, l1, hu1, e1, o1, p1⟩ := Rsl.open_cells g1
    obtain rfl : v1 = u1 := by simpa using hu1
    exact ⟨i0, v1, l1, by simp, e1, o0, ⟨o1, p1⟩⟩

set_option maxHeartbeats 2000000 in
/-- Its size: not below 0 just where it is at most what is left. -/
theorem size_org (h : List UInt8) (u : Value) (l : List Rsl.T) (left : Int) (B : Nat) (w : World) (hu : Rsl.Holds w B u l) (hB : B ≤ w.heap.size) (hok : Ok h l) (h0 : 0 ≤ left) (h3 : left ≤ 1048576) :
    Calls Try.prog 18 #[.agg #[.string ⟨h.toArray⟩, u], .int .i64 left] w fun e w' => ∃ z : Int, e = .returned (.int .i64 z) ∧ (z < 0 ∨ (0 ≤ z ∧ z + ((tot h l : Nat) : Int) = left)) ∧ Below w.heap.size w w' := by
  have HB0 := Lib.hid ((Below.refl w.heap.size w).alloc (Nat.le_refl _) (.cells #[.string ⟨h.toArray⟩, u] 40))
  have HBX := Lib.hid (fun W (hb : Below (w.alloc (.cells #[.string ⟨h.toArray⟩, u] 40)).heap.size (w.alloc (.cells #[.string ⟨h.toArray⟩, u] 40)) W) => (Kept.Box.new (w := w) (T := 40) (a := #[.string ⟨h.toArray⟩, u])).below hb)
  obtain ⟨okh, oku⟩ := hok
  have HTOT : Hid (tot h l = h.length + Rsl.total l) := Lib.hid rfl
  have HS0 := Lib.hid (fun (z : Int) (hz0 : 0 ≤ z) (hz3 : z ≤ 1048576) W (hb : Below w.heap.size w W) => Rsl.size_any u B l z W (Rsl.holds_below hu (hb.mono hB)) (Nat.le_trans hB hb.size) oku.1 oku.2 hz0 hz3)
  have hs_h : (⟨h.toArray⟩ : ByteArray).size = h.length := by simp [ByteArray.size]
  unfold maxLen at okh
  clear hu oku
  by_cases q_h : left - (h.length : Int) < 0
  · go_enter Try.func18, Try.ntmps18
    go_wp2
    go_ret
    exact ⟨_, rfl, Or.inl (by omega), HB0.out⟩
  go_enter Try.func18, Try.ntmps18
  have HC0 := Lib.hid (HS0.out (left - (h.length : Int)) (by omega) (by omega) _ HB0.out)
  go_wp2_with (fail)
  go_at_call 36
  refine HC0.out.mono ?_
  rintro e w1 ⟨z1, rfl, hz1, hb1⟩
  have HR1 := Lib.hid hb1
  have HB1 := Lib.hid (HB0.out.trans (hb1.mono HB0.out.size))
  clear hb1
  rcases hz1 with hz1 | ⟨hz10, hz11⟩
  · go_wp2
    go_ret
    exact ⟨_, rfl, Or.inl (by omega), HB1.out⟩
  have hzn1 : ¬ z1 < 0 := by omega
  have HT1 := Lib.hid hz11
  clear hz11
  go_wp2
  go_ret
  exact ⟨_, rfl, Or.inr ⟨by omega, by have := HT1.out; have := HTOT.out; omega⟩, HB1.out⟩

set_option maxHeartbeats 2000000 in
theorem eq_org (h : List UInt8) (u : Value) (l : List Rsl.T) (u' : Value) (B B' : Nat) (w : World) (hu : Rsl.Holds w B u l) (hB : B ≤ w.heap.size) (hu' : Rsl.Holds w B' u' l) (hB' : B' ≤ w.heap.size) (qu : (l.length ≤ 1048576 ∧ ∀ f ∈ l, f.egs.length ≤ 1048576 ∧ f.evs.length ≤ 1048576)) :
    Calls Try.prog 22 #[.agg #[.string ⟨h.toArray⟩, u], .agg #[.string ⟨h.toArray⟩, u']] w (Rec.Yes w) := by
  have HB0 := Lib.hid (((Below.refl w.heap.size w).alloc (Nat.le_refl _) (.cells #[.string ⟨h.toArray⟩, u] 45)).alloc (by simp) (.cells #[.string ⟨h.toArray⟩, u'] 45))
  have HBX := Lib.hid (fun W (hb : Below ((w.alloc (.cells #[.string ⟨h.toArray⟩, u] 45)).alloc (.cells #[.string ⟨h.toArray⟩, u'] 45)).heap.size ((w.alloc (.cells #[.string ⟨h.toArray⟩, u] 45)).alloc (.cells #[.string ⟨h.toArray⟩, u'] 45)) W) => ((Kept.Box.new (w := w) (T := 45) (a := #[.string ⟨h.toArray⟩, u])).alloc (.cells #[.string ⟨h.toArray⟩, u'] 45)).below hb)
  have HBY := Lib.hid (fun W (hb : Below ((w.alloc (.cells #[.string ⟨h.toArray⟩, u] 45)).alloc (.cells #[.string ⟨h.toArray⟩, u'] 45)).heap.size ((w.alloc (.cells #[.string ⟨h.toArray⟩, u] 45)).alloc (.cells #[.string ⟨h.toArray⟩, u'] 45)) W) => (Kept.Box.new (w := (w.alloc (.cells #[.string ⟨h.toArray⟩, u] 45))) (T := 45) (a := #[.string ⟨h.toArray⟩, u'])).below hb)
  rw [show (w.alloc (.cells #[.string ⟨h.toArray⟩, u] 45)).heap.size = w.heap.size + 1 by simp] at HBY
  have HS0 := Lib.hid (fun W (hb : Below w.heap.size w W) => Rsl.eq_same u u' B B' l W (Rsl.holds_below hu (hb.mono hB)) (Nat.le_trans hB hb.size) (Rsl.holds_below hu' (hb.mono hB')) (Nat.le_trans hB' hb.size) qu.1 qu.2)
  unfold Rec.Yes at HS0
  unfold Rec.Yes
  clear hu hu'
  go_enter Try.func22, Try.ntmps22
  go_wp2_with (fail)
  go_at_call 40
  refine (HS0.out _ HB0.out).mono ?_
  rintro e w1 ⟨rfl, hb1⟩
  have HR1 := Lib.hid hb1
  have HB1 := Lib.hid (HB0.out.trans (hb1.mono HB0.out.size))
  clear hb1
  go_wp2
  go_ret
  exact ⟨rfl, HB1.out⟩
end Go.Proofs.Ytggokmhdmnkoiaa.Org
