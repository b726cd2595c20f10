/-
  CONTRACTS of the laws' helpers for a Store (written by stk.py): an argument of that type, opened; its size, the comparison of two that hold the same. Nothing that was there before is changed.
-/
import Derived.Test.YtggokmhdmnkoiaaMsgRs
import Derived.Test.YtggokmhdmnkoiaaMsgRq
import Derived.Test.YtggokmhdmnkoiaaBox
import Derived.Test.YtggokmhdmnkoiaaEnl
import Derived.Test.YtggokmhdmnkoiaaEnlCp
import Derived.LoopTactic
import Derived.Outline
namespace Go.Proofs.Ytggokmhdmnkoiaa.Sto
open Go Go.RowKit
set_option linter.unusedVariables false
set_option maxRecDepth 1000000
set_option maxRecDepth 1000000

def Ok (l : List Enl.T) : Prop := (l.length ≤ maxLen ∧ ∀ f ∈ l, Enl.Ok1 f)
def tot (l : List Enl.T) : Nat := Enl.total l
/-- An argument of type laws.Store, opened. -/
theorem open_sto {H : Type} {enc : TypeId × Value → H} {W : World} {base : Nat} {v : Value} {d : DataW H} {p : List MemPlace}
    (hok : Value.okWide Try.prog W .any base 24 v) (h : DataW.Trod enc Try.prog W 0 (fun _ => true) true 24 v d p) :
    ∃ (u : Value) (l : List Enl.T), v = .agg #[u] ∧ Enl.Holds W W.heap.size u l ∧ Ok l := by
  obtain ⟨cs', rfl, hsz⟩ := WideShapes.okWide_struct Try.underlying24 hok
  obtain ⟨fuel, hf⟩ := h
  have celEntry : Try.prog.cellsOf 22 = 1 := by kernel_rfl
  have ce : Try.prog.cellsOf 24 = 1 := by kernel_rfl
  obtain ⟨l⟩ := cs'
  obtain ⟨xs, kk, hk, hxy, _, hxl, hg⟩ := DataW.trod_struct Try.underlying24 hf
  match l, hsz.trans ce, xs, hxl with
  | [v0], _, [y0], _ =>
    have g0 := hg 0 _ rfl
    simp [Value.cells, celEntry] at g0
    obtain ⟨u0, l0, hu0, e0, o0, p0⟩ := Enl.open_cells g0
    obtain rfl : v0 = u0 := by simpa using hu0
    exact ⟨v0, l0, by simp, e0, ⟨o0, p0⟩⟩

set_option maxHeartbeats 2000000 in
/-- Its size: not below 0 just where it is at most what is left. -/
theorem size_sto (u : Value) (l : List Enl.T) (left : Int) (B : Nat) (w : World) (hu : Enl.Holds w B u l) (hB : B ≤ w.heap.size) (hok : Ok l) (h0 : 0 ≤ left) (h3 : left ≤ 1048576) :
    Calls Try.prog 7 #[.agg #[u], .int .i64 left] w fun e w' => ∃ z : Int, e = .returned (.int .i64 z) ∧ (z < 0 ∨ (0 ≤ z ∧ z + ((tot l : Nat) : Int) = left)) ∧ Below w.heap.size w w' := by
  have HB0 := Lib.hid ((Below.refl w.heap.size w).alloc (Nat.le_refl _) (.cells #[u] 24))
  have HBX := Lib.hid (fun W (hb : Below (w.alloc (.cells #[u] 24)).heap.size (w.alloc (.cells #[u] 24)) W) => (Kept.Box.new (w := w) (T := 24) (a := #[u])).below hb)
  have oku : (l.length ≤ maxLen ∧ ∀ f ∈ l, Enl.Ok1 f) := hok
  have HTOT : Hid (tot l = Enl.total l) := Lib.hid rfl
  have HS0 := Lib.hid (fun (z : Int) (hz0 : 0 ≤ z) (hz3 : z ≤ 1048576) W (hb : Below w.heap.size w W) => Enl.size_any u B l z W (Enl.holds_below hu (hb.mono hB)) (Nat.le_trans hB hb.size) oku.1 oku.2 hz0 hz3)
  clear hu oku
  go_enter Try.func7, Try.ntmps7
  have HC0 := Lib.hid (HS0.out (left) (by omega) (by omega) _ HB0.out)
  go_wp2_with (fail)
  go_at_call 23
  refine HC0.out.mono ?_
  rintro e w1 ⟨z1, rfl, hz1, hb1⟩
  have HR1 := Lib.hid hb1
  have HB1 := Lib.hid (HB0.out.trans (hb1.mono HB0.out.size))
  clear hb1
  rcases hz1 with hz1 | ⟨hz10, hz11⟩
  · go_wp2
    go_ret
    exact ⟨_, rfl, Or.inl (by omega), HB1.out⟩
  have hzn1 : ¬ z1 < 0 := by omega
  have HT1 := Lib.hid hz11
  clear hz11
  go_wp2
  go_ret
  exact ⟨_, rfl, Or.inr ⟨by omega, by have := HT1.out; have := HTOT.out; omega⟩, HB1.out⟩

set_option maxHeartbeats 2000000 in
theorem eq_sto (u : Value) (l : List Enl.T) (u' : Value) (B B' : Nat) (w : World) (hu : Enl.Holds w B u l) (hB : B ≤ w.heap.size) (hu' : Enl.Holds w B' u' l) (hB' : B' ≤ w.heap.size) (qu : (l.length ≤ 1048576 ∧ ∀ f ∈ l, f.els.length ≤ 1048576 ∧ f.el.length ≤ 1048576 ∧ f.eps.length ≤ 1048576)) :
    Calls Try.prog 11 #[.agg #[u], .agg #[u']] w (Rec.Yes w) := by
  have HB0 := Lib.hid (((Below.refl w.heap.size w).alloc (Nat.le_refl _) (.cells #[u] 29)).alloc (by simp) (.cells #[u'] 29))
  have HBX := Lib.hid (fun W (hb : Below ((w.alloc (.cells #[u] 29)).alloc (.cells #[u'] 29)).heap.size ((w.alloc (.cells #[u] 29)).alloc (.cells #[u'] 29)) W) => ((Kept.Box.new (w := w) (T := 29) (a := #[u])).alloc (.cells #[u'] 29)).below hb)
  have HBY := Lib.hid (fun W (hb : Below ((w.alloc (.cells #[u] 29)).alloc (.cells #[u'] 29)).heap.size ((w.alloc (.cells #[u] 29)).alloc (.cells #[u'] 29)) W) => (Kept.Box.new (w := (w.alloc (.cells #[u] 29))) (T := 29) (a := #[u'])).below hb)
  rw [show (w.alloc (.cells #[u] 29)).heap.size = w.heap.size + 1 by simp] at HBY
  have HS0 := Lib.hid (fun W (hb : Below w.heap.size w W) => Enl.eq_same u u' B B' l W (Enl.holds_below hu (hb.mono hB)) (Nat.le_trans hB hb.size) (Enl.holds_below hu' (hb.mono hB')) (Nat.le_trans hB' hb.size) qu.1 qu.2)
  unfold Rec.Yes at HS0
  unfold Rec.Yes
  clear hu hu'
  go_enter Try.func11, Try.ntmps11
  go_wp2_with (fail)
  go_at_call 29
  refine (HS0.out _ HB0.out).mono ?_
  rintro e w1 ⟨rfl, hb1⟩
  have HR1 := Lib.hid hb1
  have HB1 := Lib.hid (HB0.out.trans (hb1.mono HB0.out.size))
  clear hb1
  go_wp2
  go_ret
  exact ⟨rfl, HB1.out⟩
end Go.Proofs.Ytggokmhdmnkoiaa.Sto
