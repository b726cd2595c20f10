/-
  PROVED: at any two tags the program's StrongSame returns what its model returns: the exact law of StrongSame returns true and leaves its arguments as they were. CONDITION: none.
-/
import Derived.Test.YteibanoohoipdaaBase
import Derived.Carry
import Derived.Test.YteibanoohoipdaaTgsArg
import Derived.Test.YteibanoohoipdaaTgsCp
import Derived.Test.YteibanoohoipdaaTagSame
import Derived.Test.YteibanoohoipdaaRegS
namespace Go.Proofs.Yteibanoohoipdaa.fnExactStrongSame
open Go.ChangeShapes Go.WideShapes Go.ChangeAt Go.RowKit
set_option linter.unusedVariables false

theorem own : ownKnob Try.prog.godebug = none := by kernel_rfl

theorem laidOut : laidOutB Try.prog = true := by kernel_rfl

def BoxS (w : World) (p0_0 : Bool) (p0_1 : List UInt8) (p1_0 : Bool) (p1_1 : List UInt8) (u : World) : Prop := (u.cell? ⟨w.heap.size, 0, none⟩ = some (.bool (p0_0)) ∧ u.cell? ⟨w.heap.size, 1, none⟩ = some (.string ⟨(p0_1).toArray⟩)) ∧ (u.cell? ⟨(w.heap.size + 1), 0, none⟩ = some (.bool (p1_0)) ∧ u.cell? ⟨(w.heap.size + 1), 1, none⟩ = some (.string ⟨(p1_1).toArray⟩)) ∧ Below w.heap.size w u
theorem boxs_call {w u u' : World} {p0_0 : Bool} {p0_1 : List UInt8} {p1_0 : Bool} {p1_1 : List UInt8} (h : BoxS w p0_0 p0_1 p1_0 p1_1 u) (hb : Below u.heap.size u u') : BoxS w p0_0 p0_1 p1_0 p1_1 u' := ⟨⟨(hb.cell (p := ⟨w.heap.size, 0, none⟩) (Rec.lt_of_cell (h.1.1))).trans (h.1.1), (hb.cell (p := ⟨w.heap.size, 1, none⟩) (Rec.lt_of_cell (h.1.2))).trans (h.1.2)⟩, ⟨(hb.cell (p := ⟨(w.heap.size + 1), 0, none⟩) (Rec.lt_of_cell (h.2.1.1))).trans (h.2.1.1), (hb.cell (p := ⟨(w.heap.size + 1), 1, none⟩) (Rec.lt_of_cell (h.2.1.2))).trans (h.2.1.2)⟩, Base.then_below h.2.2 hb⟩
set_option maxHeartbeats 4000000 in
theorem walk (f0 : Tgs.T) (f1 : Tgs.T) (w0 : Tgs.Ok f0) (w1 : Tgs.Ok f1) (w : World)  :
    Calls Try.prog 5 #[Tgs.fv f0, Tgs.fv f1] w fun e w' => e = .returned (.bool true) ∧ Below w.heap.size w w' := by
  have HW0 := Lib.hid w0
  clear w0
  have HW1 := Lib.hid w1
  clear w1
  obtain ⟨p0_0, p0_1⟩ := f0
  try unfold Tgs.fv
  dsimp only
  have HB0' : Below w.heap.size w (w.alloc (.cells #[.bool (p0_0), .string ⟨(p0_1).toArray⟩] 23)) := ((Below.refl w.heap.size w)).alloc (by simp) (.cells #[.bool (p0_0), .string ⟨(p0_1).toArray⟩] 23)
  have hz0' : w.heap.size < (w.alloc (.cells #[.bool (p0_0), .string ⟨(p0_1).toArray⟩] 23)).heap.size := by simp
  have HX0 : Hid ((w.alloc (.cells #[.bool (p0_0), .string ⟨(p0_1).toArray⟩] 23)).cell? ⟨w.heap.size, 0, none⟩ = some (.bool (p0_0)) ∧ (w.alloc (.cells #[.bool (p0_0), .string ⟨(p0_1).toArray⟩] 23)).cell? ⟨w.heap.size, 1, none⟩ = some (.string ⟨(p0_1).toArray⟩)) := Lib.hid ⟨by rw [World.cell?_alloc_new]; rfl, by rw [World.cell?_alloc_new]; rfl⟩
  obtain ⟨p1_0, p1_1⟩ := f1
  try unfold Tgs.fv
  dsimp only
  have HB1' : Below w.heap.size w ((w.alloc (.cells #[.bool (p0_0), .string ⟨(p0_1).toArray⟩] 23)).alloc (.cells #[.bool (p1_0), .string ⟨(p1_1).toArray⟩] 23)) := (HB0').alloc (by simp) (.cells #[.bool (p1_0), .string ⟨(p1_1).toArray⟩] 23)
  have hz1' : (w.heap.size + 1) < ((w.alloc (.cells #[.bool (p0_0), .string ⟨(p0_1).toArray⟩] 23)).alloc (.cells #[.bool (p1_0), .string ⟨(p1_1).toArray⟩] 23)).heap.size := by simp
  have HX0 := Lib.hid (And.intro ((((Below.refl (w.alloc (.cells #[.bool (p0_0), .string ⟨(p0_1).toArray⟩] 23)).heap.size (w.alloc (.cells #[.bool (p0_0), .string ⟨(p0_1).toArray⟩] 23))).alloc (Nat.le_refl _) (.cells #[.bool (p1_0), .string ⟨(p1_1).toArray⟩] 23)).cell (p := ⟨w.heap.size, 0, none⟩) (by simp)).trans (HX0.out.1)) ((((Below.refl (w.alloc (.cells #[.bool (p0_0), .string ⟨(p0_1).toArray⟩] 23)).heap.size (w.alloc (.cells #[.bool (p0_0), .string ⟨(p0_1).toArray⟩] 23))).alloc (Nat.le_refl _) (.cells #[.bool (p1_0), .string ⟨(p1_1).toArray⟩] 23)).cell (p := ⟨w.heap.size, 1, none⟩) (by simp)).trans (HX0.out.2)))
  have HX1 : Hid (((w.alloc (.cells #[.bool (p0_0), .string ⟨(p0_1).toArray⟩] 23)).alloc (.cells #[.bool (p1_0), .string ⟨(p1_1).toArray⟩] 23)).cell? ⟨(w.heap.size + 1), 0, none⟩ = some (.bool (p1_0)) ∧ ((w.alloc (.cells #[.bool (p0_0), .string ⟨(p0_1).toArray⟩] 23)).alloc (.cells #[.bool (p1_0), .string ⟨(p1_1).toArray⟩] 23)).cell? ⟨(w.heap.size + 1), 1, none⟩ = some (.string ⟨(p1_1).toArray⟩)) := Lib.hid ⟨by rw [World.cell?_alloc_at _ _ _ _ (by simp)]; rfl, by rw [World.cell?_alloc_at _ _ _ _ (by simp)]; rfl⟩
  have HB := Lib.hid HB1'
  have hszw := HB.out.size
  clear HB0' HB1'
  go_enter Try.func5, Try.ntmps5
  have HX0o := HX0.out
  obtain ⟨hx0_0, hx0_1⟩ := HX0o
  go_wp2_with (fail)
  go_at_call 8
  refine (Tgs.size_two p0_0 p0_1 _ _ HW0.out (by decide) (by decide)).mono ?_
  rintro e x1 ⟨z_0, rfl, hz0, b1⟩
  have hs1 := b1.size
  clear hx0_0 hx0_1
  have HX0 := Lib.hid (And.intro ((b1.cell (p := ⟨w.heap.size, 0, none⟩) (Rec.lt_of_cell (HX0.out.1))).trans (HX0.out.1)) ((b1.cell (p := ⟨w.heap.size, 1, none⟩) (Rec.lt_of_cell (HX0.out.2))).trans (HX0.out.2)))
  have HX1 := Lib.hid (And.intro ((b1.cell (p := ⟨(w.heap.size + 1), 0, none⟩) (Rec.lt_of_cell (HX1.out.1))).trans (HX1.out.1)) ((b1.cell (p := ⟨(w.heap.size + 1), 1, none⟩) (Rec.lt_of_cell (HX1.out.2))).trans (HX1.out.2)))
  have HB := Lib.hid (Base.then_below HB.out b1)
  clear b1
  rcases hz0 with hz0 | ⟨hz0, ht0⟩
  · go_wp2
    go_ret
    exact ⟨rfl, HB.out⟩
  have hzn0 : ¬ z_0 < 0 := by omega
  have HZ0 : Hid (z_0 + (((p0_1.length) : Nat) : Int) = 1048576) := Lib.hid (by omega)
  clear ht0
  have HX1o := HX1.out
  obtain ⟨hx1_0, hx1_1⟩ := HX1o
  go_wp2_with (fail)
  go_at_call 8
  refine (Tgs.size_two p1_0 p1_1 z_0 _ HW1.out hz0 (by have := HZ0.out; omega)).mono ?_
  rintro e x2 ⟨z_1, rfl, hz1, b2⟩
  have hs2 := b2.size
  clear hx1_0 hx1_1
  have HX0 := Lib.hid (And.intro ((b2.cell (p := ⟨w.heap.size, 0, none⟩) (Rec.lt_of_cell (HX0.out.1))).trans (HX0.out.1)) ((b2.cell (p := ⟨w.heap.size, 1, none⟩) (Rec.lt_of_cell (HX0.out.2))).trans (HX0.out.2)))
  have HX1 := Lib.hid (And.intro ((b2.cell (p := ⟨(w.heap.size + 1), 0, none⟩) (Rec.lt_of_cell (HX1.out.1))).trans (HX1.out.1)) ((b2.cell (p := ⟨(w.heap.size + 1), 1, none⟩) (Rec.lt_of_cell (HX1.out.2))).trans (HX1.out.2)))
  have HB := Lib.hid (Base.then_below HB.out b2)
  clear b2
  rcases hz1 with hz1 | ⟨hz1, ht1⟩
  · go_wp2
    go_ret
    exact ⟨rfl, HB.out⟩
  have hzn1 : ¬ z_1 < 0 := by omega
  have HZ1 : Hid (z_1 + (((p0_1.length) + (p1_1.length) : Nat) : Int) = 1048576) := Lib.hid (by have := HZ0.out; omega)
  clear ht1
  have HL0_1 : Hid (p0_1.length ≤ 1048576) := Lib.hid (by have := HZ1.out; omega)
  have HL1_1 : Hid (p1_1.length ≤ 1048576) := Lib.hid (by have := HZ1.out; omega)
  obtain ⟨r, hr⟩ : ∃ z, z = Tgs.samestrong (p0_0, p0_1) (p1_0, p1_1) := ⟨_, rfl⟩
  have HGr := Lib.hid hr
  clear hr
  have HSD3 : Hid (BoxS w p0_0 p0_1 p1_0 p1_1 x2.drew) := Lib.hid ⟨HX0.out, HX1.out, Rec.below_drew HB.out⟩
  have SK3 : Hid (∀ w0 w1 : World, BoxS w p0_0 p0_1 p1_0 p1_1 w0 → Below w0.heap.size w0 w1 → BoxS w p0_0 p0_1 p1_0 p1_1 w1) := Lib.hid (fun _ _ h hb => boxs_call h hb)
  have f3_0_0 : ∀ u : RegS.In (BoxS w p0_0 p0_1 p1_0 p1_1), u.w.cell? ⟨w.heap.size, 0, none⟩ = some (.bool (p0_0)) := fun u => u.h.1.1
  have f3_0_1 : ∀ u : RegS.In (BoxS w p0_0 p0_1 p1_0 p1_1), u.w.cell? ⟨w.heap.size, 1, none⟩ = some (.string ⟨(p0_1).toArray⟩) := fun u => u.h.1.2
  have HT3_0 : Hid (∀ W : World, Calls Try.prog 10 #[.agg #[.bool (p0_0), .string ⟨(p0_1).toArray⟩]] W fun e w' => e = .returned (.agg #[.bool (p0_0), .string ⟨(p0_1).toArray⟩]) ∧ Below W.heap.size W w') := Lib.hid (fun W => Tgs.copy_two p0_0 p0_1 W)
  have f3_1_0 : ∀ u : RegS.In (BoxS w p0_0 p0_1 p1_0 p1_1), u.w.cell? ⟨(w.heap.size + 1), 0, none⟩ = some (.bool (p1_0)) := fun u => u.h.2.1.1
  have f3_1_1 : ∀ u : RegS.In (BoxS w p0_0 p0_1 p1_0 p1_1), u.w.cell? ⟨(w.heap.size + 1), 1, none⟩ = some (.string ⟨(p1_1).toArray⟩) := fun u => u.h.2.1.2
  have HT3_1 : Hid (∀ W : World, Calls Try.prog 10 #[.agg #[.bool (p1_0), .string ⟨(p1_1).toArray⟩]] W fun e w' => e = .returned (.agg #[.bool (p1_0), .string ⟨(p1_1).toArray⟩]) ∧ Below W.heap.size W w') := Lib.hid (fun W => Tgs.copy_two p1_0 p1_1 W)
  have HF3 : Hid (∀ W : World, Calls Try.prog 14 #[.agg #[.bool (p0_0), .string ⟨(p0_1).toArray⟩], .agg #[.bool (p1_0), .string ⟨(p1_1).toArray⟩]] W fun e w' => e = .returned (.bool (Tgs.samestrong (p0_0, p0_1) (p1_0, p1_1))) ∧ Below W.heap.size W w') := Lib.hid (fun W => Tgs.spec_strong p0_0 p0_1 p1_0 p1_1 W)
  rw [← HGr.out] at HF3
  go_wp2
  refine RegS.region (BoxS w p0_0 p0_1 p1_0 p1_1) (by kernel_rfl) (by kernel_rfl) HSD3.out ?_
  haveI : Nonempty (RegS.In (BoxS w p0_0 p0_1 p1_0 p1_1)) := ⟨⟨_, HSD3.out⟩⟩
  repeat (first | go_big_quiet_step ((first | (go_at_call 10; with_reducible exact RegS.call (HT3_0.out _) (fun e w' he => ⟨he.1, SK3.out _ _ (RegS.In.h _) he.2⟩)) | (go_at_call 10; with_reducible exact RegS.call (HT3_1.out _) (fun e w' he => ⟨he.1, SK3.out _ _ (RegS.In.h _) he.2⟩)) | (go_at_call 14; with_reducible exact RegS.call (HF3.out _) (fun e w' he => ⟨he.1, SK3.out _ _ (RegS.In.h _) he.2⟩)))) | quiet_step ((first | (go_at_call 10; with_reducible exact RegS.call (HT3_0.out _) (fun e w' he => ⟨he.1, SK3.out _ _ (RegS.In.h _) he.2⟩)) | (go_at_call 10; with_reducible exact RegS.call (HT3_1.out _) (fun e w' he => ⟨he.1, SK3.out _ _ (RegS.In.h _) he.2⟩)) | (go_at_call 14; with_reducible exact RegS.call (HF3.out _) (fun e w' he => ⟨he.1, SK3.out _ _ (RegS.In.h _) he.2⟩)))))
  refine wpQuiet_nil ?_
  intro wz3 hw'
  obtain ⟨⟨wq, hS⟩, hw''⟩ := hw'
  subst hw''
  have HX0 := Lib.hid hS.1
  have HX1 := Lib.hid hS.2.1
  have HB := Lib.hid hS.2.2
  clear hS f3_0_0 HT3_0 f3_0_1 f3_1_0 HT3_1 f3_1_1
  have HSD4 : Hid (BoxS w p0_0 p0_1 p1_0 p1_1 wz3.drew) := Lib.hid ⟨HX0.out, HX1.out, Rec.below_drew HB.out⟩
  have SK4 : Hid (∀ w0 w1 : World, BoxS w p0_0 p0_1 p1_0 p1_1 w0 → Below w0.heap.size w0 w1 → BoxS w p0_0 p0_1 p1_0 p1_1 w1) := Lib.hid (fun _ _ h hb => boxs_call h hb)
  have f4_0_0 : ∀ u : RegS.In (BoxS w p0_0 p0_1 p1_0 p1_1), u.w.cell? ⟨w.heap.size, 0, none⟩ = some (.bool (p0_0)) := fun u => u.h.1.1
  have f4_0_1 : ∀ u : RegS.In (BoxS w p0_0 p0_1 p1_0 p1_1), u.w.cell? ⟨w.heap.size, 1, none⟩ = some (.string ⟨(p0_1).toArray⟩) := fun u => u.h.1.2
  have HT4_0 : Hid (∀ W : World, Calls Try.prog 10 #[.agg #[.bool (p0_0), .string ⟨(p0_1).toArray⟩]] W fun e w' => e = .returned (.agg #[.bool (p0_0), .string ⟨(p0_1).toArray⟩]) ∧ Below W.heap.size W w') := Lib.hid (fun W => Tgs.copy_two p0_0 p0_1 W)
  have f4_1_0 : ∀ u : RegS.In (BoxS w p0_0 p0_1 p1_0 p1_1), u.w.cell? ⟨(w.heap.size + 1), 0, none⟩ = some (.bool (p1_0)) := fun u => u.h.2.1.1
  have f4_1_1 : ∀ u : RegS.In (BoxS w p0_0 p0_1 p1_0 p1_1), u.w.cell? ⟨(w.heap.size + 1), 1, none⟩ = some (.string ⟨(p1_1).toArray⟩) := fun u => u.h.2.1.2
  have HT4_1 : Hid (∀ W : World, Calls Try.prog 10 #[.agg #[.bool (p1_0), .string ⟨(p1_1).toArray⟩]] W fun e w' => e = .returned (.agg #[.bool (p1_0), .string ⟨(p1_1).toArray⟩]) ∧ Below W.heap.size W w') := Lib.hid (fun W => Tgs.copy_two p1_0 p1_1 W)
  have HF4 : Hid (∀ W : World, Calls Try.prog 15 #[.agg #[.bool (p0_0), .string ⟨(p0_1).toArray⟩], .agg #[.bool (p1_0), .string ⟨(p1_1).toArray⟩]] W fun e w' => e = .returned (.bool (Tgs.samestrong (p0_0, p0_1) (p1_0, p1_1))) ∧ Below W.heap.size W w') := Lib.hid (fun W => Tgs.impl_strong p0_0 p0_1 p1_0 p1_1 W)
  rw [← HGr.out] at HF4
  go_wp2
  refine RegS.region (BoxS w p0_0 p0_1 p1_0 p1_1) (by kernel_rfl) (by kernel_rfl) HSD4.out ?_
  haveI : Nonempty (RegS.In (BoxS w p0_0 p0_1 p1_0 p1_1)) := ⟨⟨_, HSD4.out⟩⟩
  repeat (first | go_big_quiet_step ((first | (go_at_call 10; with_reducible exact RegS.call (HT4_0.out _) (fun e w' he => ⟨he.1, SK4.out _ _ (RegS.In.h _) he.2⟩)) | (go_at_call 10; with_reducible exact RegS.call (HT4_1.out _) (fun e w' he => ⟨he.1, SK4.out _ _ (RegS.In.h _) he.2⟩)) | (go_at_call 15; with_reducible exact RegS.call (HF4.out _) (fun e w' he => ⟨he.1, SK4.out _ _ (RegS.In.h _) he.2⟩)))) | quiet_step ((first | (go_at_call 10; with_reducible exact RegS.call (HT4_0.out _) (fun e w' he => ⟨he.1, SK4.out _ _ (RegS.In.h _) he.2⟩)) | (go_at_call 10; with_reducible exact RegS.call (HT4_1.out _) (fun e w' he => ⟨he.1, SK4.out _ _ (RegS.In.h _) he.2⟩)) | (go_at_call 15; with_reducible exact RegS.call (HF4.out _) (fun e w' he => ⟨he.1, SK4.out _ _ (RegS.In.h _) he.2⟩)))))
  refine wpQuiet_nil ?_
  intro wz4 hw'
  obtain ⟨⟨wq, hS⟩, hw''⟩ := hw'
  subst hw''
  have HX0 := Lib.hid hS.1
  have HX1 := Lib.hid hS.2.1
  have HB := Lib.hid hS.2.2
  clear hS f4_0_0 HT4_0 f4_0_1 f4_1_0 HT4_1 f4_1_1
  go_wp2
  go_ret
  exact ⟨rfl, HB.out⟩

set_option maxRecDepth 100000 in
theorem lifted (os : Os) (started : os.Started) (H : Type) (enc : TypeId × Value → H) :
    ReturnsInHanded {} Try.checked os 5 .any (Rows.fnExactStrongSameSpec.pre6 enc Try.prog Try.f5 Rows.fnExactStrongSameRow.domain false) (Rows.fnExactStrongSameSpec.post enc Try.prog Try.f5 false true false false) := by
  refine returnsInHanded_of_change (C := Try.checked) own started (by kernel_rfl) Try.func5
    (ChangeSpec.witness6 (enc := enc) (C := Try.checked) false ⟨#[], #[.agg #[.bool false, .string ⟨#[]⟩], .agg #[.bool false, .string ⟨#[]⟩]], []⟩ 8 (by kernel_rfl) (by kernel_rfl) (by kernel_rfl) (by kernel_rfl)) ?_
  intro W base args ds gs before hval0 hW hcnd _
  have hval : ∀ (j : Nat) t v, Try.f5.params[j]? = some t → args[j]? = some v → Value.okWide Try.prog W .any base t v := hval0
  have hW' := hW
  obtain ⟨p, q, hA0, hV, rfl, hfz, hnd⟩ := hW
  have hA : DataW.TrodAll enc Try.prog W 0 (fun _ => true) true Try.f5.params.toList args.toList ds p := hA0
  rw [Try.params5] at hA hval
  obtain ⟨v0, vs0, d0, ds0, p0, q0, hargs, rfl, rfl, h0, r0⟩ := trodAll_cons hA
  obtain ⟨v1, vs1, d1, ds1, p1, q1, rfl, rfl, rfl, h1, r1⟩ := trodAll_cons r0
  obtain ⟨rfl, rfl, rfl⟩ := trodAll_nil r1
  obtain rfl : args = #[v0, v1] := by cases args; simp_all
  obtain ⟨rfl, rfl⟩ := trodVars_none hV
  have k0 := h0
  obtain ⟨a0, rfl, w0⟩ := Tgs.open_val (hval 0 23 v0 rfl rfl) h0
  have k1 := h1
  obtain ⟨a1, rfl, w1⟩ := Tgs.open_val (hval 1 23 v1 rfl rfl) h1
  clear hA0 hval0
  simp only [List.append_nil] at hW'
  refine (walk a0 a1 w0 w1 W ).mono fun e W' ⟨he, hb⟩ => ?_
  subst he
  exact ⟨_, rfl, ⟨_, _, _, [], _, [], hW', (trodAll_cons_mk (shut_bool Try.underlying4 _) trodAll_mk0), (trodAll_cons_mk (Below.trod laidOut (by kernel_rfl) (of_decide_eq_true (by kernel_rfl)) k0 hb (fun x hx => hW'.lt x (by simp [hx]))) (trodAll_cons_mk (Below.trod laidOut (by kernel_rfl) (of_decide_eq_true (by kernel_rfl)) k1 hb (fun x hx => hW'.lt x (by simp [hx]))) trodAll_mk0)), rfl, hb.frame _, fun h => by cases h⟩⟩

theorem over : Rows.fnExactStrongSameRow.holds Try.pinned (OpenSpec.ofChange Rows.fnExactStrongSameSpec) :=
  OpenClaim.holds_of_wide 5 Try.f5 rfl rfl rfl rfl rfl rfl rfl ⟨rfl, rfl, rfl, rfl, rfl⟩ rfl rfl rfl rfl rfl (by kernel_rfl) Try.func5 (by kernel_rfl)
    (of_decide_eq_true (by kernel_rfl)) (by unfold Func.isWrapper; first | (rw [if_pos (by decide +kernel)]; kernel_rfl) | (rw [if_neg (by decide +kernel)]; exact ⟨rfl, rfl⟩))
    (fun os started H enc _ => lifted os started H enc)

/-- The given statement. -/
theorem proved : Rows.FnExactStrongSameSaid :=
  over
#print axioms proved
end Go.Proofs.Yteibanoohoipdaa.fnExactStrongSame
