/-
  CONTRACT of the laws' toOrigin (written by stk.py): a copy whose lists are the call's own. Nothing that was there before is changed.
-/
import Derived.Test.YtggokmhdmnkoiaaOrg
import Derived.Deep.DeepCutAuto
import Derived.RegionTactic
namespace Go.Proofs.Ytggokmhdmnkoiaa.Org
open Go Go.RowKit
set_option linter.unusedVariables false
set_option maxRecDepth 1000000
set_option maxRecDepth 1000000

def Copied (h : List UInt8) (l : List Rsl.T) (w : World) (e : Ending) (w' : World) : Prop := ∃ u, e = .returned (.agg #[.string ⟨h.toArray⟩, u]) ∧ Rsl.Own w' w.heap.size u l ∧ Below w.heap.size w w'

set_option maxHeartbeats 8000000 in
theorem copy_org (h : List UInt8) (u : Value) (l : List Rsl.T) (B : Nat) (w : World) (hu : Rsl.Holds w B u l) (hB : B ≤ w.heap.size) (qu : (l.length ≤ 1048576 ∧ ∀ f ∈ l, f.egs.length ≤ 1048576 ∧ f.evs.length ≤ 1048576)) :
    Calls Try.prog 20 #[.agg #[.string ⟨h.toArray⟩, u]] w (Copied h l w) := by
  have HB0 := Lib.hid ((((Below.refl w.heap.size w).alloc (Nat.le_refl _) (.cells #[.string ⟨h.toArray⟩, u] 40)).alloc (by simp) (.cells #[.string ⟨#[]⟩, .slice none 0 0] 45)).alloc (by simp; omega) (.cells #[.string ⟨h.toArray⟩, .slice none 0 0] 45))
  have HS0 := Lib.hid (fun W (hb : Below w.heap.size w W) => Rsl.copy u B l W (Rsl.holds_below hu (hb.mono hB)) (Nat.le_trans hB hb.size) qu.1 qu.2)
  unfold Rsl.Copied at HS0
  have HX := Lib.hid (((Kept.Box.new (w := w) (T := 40) (a := #[.string ⟨h.toArray⟩, u])).alloc (.cells #[.string ⟨#[]⟩, .slice none 0 0] 45)).alloc (.cells #[.string ⟨h.toArray⟩, .slice none 0 0] 45))
  have HY := Lib.hid ((Kept.Box.new (w := (w.alloc (.cells #[.string ⟨h.toArray⟩, u] 40))) (T := 45) (a := #[.string ⟨#[]⟩, .slice none 0 0])).alloc (.cells #[.string ⟨h.toArray⟩, .slice none 0 0] 45))
  have HZ := Lib.hid (Kept.Box.new (w := ((w.alloc (.cells #[.string ⟨h.toArray⟩, u] 40)).alloc (.cells #[.string ⟨#[]⟩, .slice none 0 0] 45))) (T := 45) (a := #[.string ⟨h.toArray⟩, .slice none 0 0]))
  rw [show (w.alloc (.cells #[.string ⟨h.toArray⟩, u] 40)).heap.size = w.heap.size + 1 by simp] at HY
  rw [show ((w.alloc (.cells #[.string ⟨h.toArray⟩, u] 40)).alloc (.cells #[.string ⟨#[]⟩, .slice none 0 0] 45)).heap.size = w.heap.size + 1 + 1 by simp] at HZ
  have hz3 : (((w.alloc (.cells #[.string ⟨h.toArray⟩, u] 40)).alloc (.cells #[.string ⟨#[]⟩, .slice none 0 0] 45)).alloc (.cells #[.string ⟨h.toArray⟩, .slice none 0 0] 45)).heap.size = w.heap.size + 1 + 1 + 1 := by simp
  unfold Copied
  clear hu
  go_enter Try.func20, Try.ntmps20
  go_wp2_with (fail)
  go_at_call 37
  refine (HS0.out _ HB0.out).mono ?_
  rintro e w1 ⟨v1, rfl, o1, hb1⟩
  obtain ⟨a1, c1, rfl, _⟩ := Rsl.own_shape o1
  have hZ1 := HZ.out.below hb1
  have hX1 := HX.out.below hb1
  have hY1 := HY.out.below hb1
  have HB1 := Lib.hid (HB0.out.trans (hb1.mono HB0.out.size))
  have hs1 := hb1.size
  rw [hz3] at hs1 o1
  clear hz3
  have HO1 : Hid (Rsl.Own w1 (w.heap.size + 1 + 1 + 1) (.slice a1 (l.length) c1) l) := Lib.hid (Rsl.own_mono o1 (by omega))
  clear o1 hb1
  have z0 := hZ1.cell 0 _ rfl
  have z1 := hZ1.cell 1 _ rfl
  have zf1 := hZ1.frz 1
  have HZE := Lib.hid (hZ1.same (k := 1) (by simp) (.slice a1 (l.length) c1))
  have HYE := Lib.hid (hY1.other (g' := w.heap.size + 1 + 1) (k := 1) (by omega) (.slice a1 (l.length) c1))
  have HBZ := Lib.hid (HB1.out.setCell (p := ⟨w.heap.size + 1 + 1, 1, none⟩) (by show w.heap.size ≤ w.heap.size + 1 + 1; omega) (.slice a1 (l.length) c1))
  have HW1 : Hid (Rsl.Own (w1.setCell ⟨w.heap.size + 1 + 1, 1, none⟩ (.slice a1 (l.length) c1)) (w.heap.size + 1 + 1 + 1) (.slice a1 (l.length) c1) l) := Lib.hid (Rsl.own_set HO1.out (by omega) 1 _)
  clear hZ1 hX1 hY1 HO1  HB1 HZ HX HY
  go_upto_region 4 with fail
  generalize (w1.setCell ⟨w.heap.size + 1 + 1, 1, none⟩ (.slice a1 (l.length) c1)) = wz at HZE HYE HBZ HW1 ⊢
  clear z0 z1 zf1
  have hZ := HZE.out
  have hY := HYE.out
  have z0 := hZ.cell 0 _ rfl
  have y0 := hY.cell 0 _ rfl
  have yf0 := hY.frz 0
  have z1 := hZ.cell 1 _ rfl
  have y1 := hY.cell 1 _ rfl
  have yf1 := hY.frz 1
  clear hZ hY
  go_wp2
  refine bodyPost_ret (v := .agg #[.string ⟨h.toArray⟩, (.slice a1 (l.length) c1)]) (by simp [results, Try.results20, go_sem, y0, y1]) rfl ⟨_, rfl, ?_, ?_⟩
  · refine Rsl.own_mono (B := w.heap.size + 1 + 1 + 1) ?_ (by omega)
    repeat (refine Rsl.own_set ?_ (by omega) _ _)
    exact HW1.out
  · repeat (refine Below.setCell (p := ⟨w.heap.size + 1, _, none⟩) ?_ (by show w.heap.size ≤ w.heap.size + 1; omega) _)
    exact HBZ.out
end Go.Proofs.Ytggokmhdmnkoiaa.Org
