/-
  PROVED: at any hop the program's IsHop returns what its model returns: the exact law of IsHop returns true and leaves its argument as it was. CONDITION: none.
-/
import Derived.Test.YtnffoifkinpmpaaBase
import Derived.Carry
import Derived.Test.YtnffoifkinpmpaaHpsArg
import Derived.Test.YtnffoifkinpmpaaHpsCp
import Derived.Test.YtnffoifkinpmpaaHopIs
namespace Go.Proofs.Ytnffoifkinpmpaa.fnExactIsHop
open Go.ChangeShapes Go.WideShapes Go.ChangeAt Go.RowKit
set_option linter.unusedVariables false
set_option maxRecDepth 1000000

theorem own : ownKnob Try.prog.godebug = none := by kernel_rfl

theorem laidOut : laidOutB Try.prog = true := by kernel_rfl

set_option maxHeartbeats 4000000 in
theorem walk (f0 : Hps.T) (w0 : Hps.Ok f0) (w : World)  :
    Calls Try.prog 3 #[Hps.fv f0] w fun e w' => e = .returned (.bool true) ∧ Below w.heap.size w w' := by
  have HW0 := Lib.hid w0
  clear w0
  obtain ⟨p0_0, p0_1, p0_2⟩ := f0
  try unfold Hps.fv
  dsimp only
  have HB0' : Below w.heap.size w (w.alloc (.cells #[.int .i64 (p0_0), .int .i64 (p0_1), .int .i64 (p0_2)] 23)) := ((Below.refl w.heap.size w)).alloc (by simp) (.cells #[.int .i64 (p0_0), .int .i64 (p0_1), .int .i64 (p0_2)] 23)
  have hz0' : w.heap.size < (w.alloc (.cells #[.int .i64 (p0_0), .int .i64 (p0_1), .int .i64 (p0_2)] 23)).heap.size := by simp
  have HX0 : Hid ((w.alloc (.cells #[.int .i64 (p0_0), .int .i64 (p0_1), .int .i64 (p0_2)] 23)).cell? ⟨w.heap.size, 0, none⟩ = some (.int .i64 (p0_0)) ∧ (w.alloc (.cells #[.int .i64 (p0_0), .int .i64 (p0_1), .int .i64 (p0_2)] 23)).cell? ⟨w.heap.size, 1, none⟩ = some (.int .i64 (p0_1)) ∧ (w.alloc (.cells #[.int .i64 (p0_0), .int .i64 (p0_1), .int .i64 (p0_2)] 23)).cell? ⟨w.heap.size, 2, none⟩ = some (.int .i64 (p0_2))) := Lib.hid ⟨by rw [World.cell?_alloc_new]; rfl, by rw [World.cell?_alloc_new]; rfl, by rw [World.cell?_alloc_new]; rfl⟩
  have HB := Lib.hid HB0'
  have hszw := HB.out.size
  clear HB0'
  go_enter Try.func3, Try.ntmps3
  obtain ⟨r, hr⟩ : ∃ z, z = Hps.okh (p0_0, p0_1, p0_2) := ⟨_, rfl⟩
  have HGr := Lib.hid hr
  clear hr
  have HX0o := HX0.out
  obtain ⟨hx0_0, hx0_1, hx0_2⟩ := HX0o
  go_wp2_with (fail)
  go_at_call 12
  refine (Hps.copy_two p0_0 p0_1 p0_2 _).mono ?_
  rintro e x1 ⟨rfl, b1⟩
  have hs1 := b1.size
  clear hx0_0 hx0_1 hx0_2
  have HX0 := Lib.hid (And.intro ((b1.cell (p := ⟨w.heap.size, 0, none⟩) (Rec.lt_of_cell (HX0.out.1))).trans (HX0.out.1)) (And.intro ((b1.cell (p := ⟨w.heap.size, 1, none⟩) (Rec.lt_of_cell (HX0.out.2.1))).trans (HX0.out.2.1)) ((b1.cell (p := ⟨w.heap.size, 2, none⟩) (Rec.lt_of_cell (HX0.out.2.2))).trans (HX0.out.2.2))))
  have HB := Lib.hid (Base.then_below HB.out b1)
  clear b1
  go_wp2_with (fail)
  go_at_call 11
  refine (Hps.spec_hop p0_0 p0_1 p0_2 _).mono ?_
  rintro e x2 ⟨he, b2⟩
  rw [← HGr.out] at he
  subst he
  have hs2 := b2.size
  have HX0 := Lib.hid (And.intro ((b2.cell (p := ⟨w.heap.size, 0, none⟩) (Rec.lt_of_cell (HX0.out.1))).trans (HX0.out.1)) (And.intro ((b2.cell (p := ⟨w.heap.size, 1, none⟩) (Rec.lt_of_cell (HX0.out.2.1))).trans (HX0.out.2.1)) ((b2.cell (p := ⟨w.heap.size, 2, none⟩) (Rec.lt_of_cell (HX0.out.2.2))).trans (HX0.out.2.2))))
  have HB := Lib.hid (Base.then_below HB.out b2)
  clear b2
  have HX0o := HX0.out
  obtain ⟨hx0_0, hx0_1, hx0_2⟩ := HX0o
  go_wp2_with (fail)
  go_at_call 12
  refine (Hps.copy_two p0_0 p0_1 p0_2 _).mono ?_
  rintro e x3 ⟨rfl, b3⟩
  have hs3 := b3.size
  clear hx0_0 hx0_1 hx0_2
  have HX0 := Lib.hid (And.intro ((b3.cell (p := ⟨w.heap.size, 0, none⟩) (Rec.lt_of_cell (HX0.out.1))).trans (HX0.out.1)) (And.intro ((b3.cell (p := ⟨w.heap.size, 1, none⟩) (Rec.lt_of_cell (HX0.out.2.1))).trans (HX0.out.2.1)) ((b3.cell (p := ⟨w.heap.size, 2, none⟩) (Rec.lt_of_cell (HX0.out.2.2))).trans (HX0.out.2.2))))
  have HB := Lib.hid (Base.then_below HB.out b3)
  clear b3
  go_wp2_with (fail)
  go_at_call 13
  refine (Hps.impl_hop p0_0 p0_1 p0_2 _).mono ?_
  rintro e x4 ⟨he, b4⟩
  rw [← HGr.out] at he
  subst he
  have hs4 := b4.size
  have HX0 := Lib.hid (And.intro ((b4.cell (p := ⟨w.heap.size, 0, none⟩) (Rec.lt_of_cell (HX0.out.1))).trans (HX0.out.1)) (And.intro ((b4.cell (p := ⟨w.heap.size, 1, none⟩) (Rec.lt_of_cell (HX0.out.2.1))).trans (HX0.out.2.1)) ((b4.cell (p := ⟨w.heap.size, 2, none⟩) (Rec.lt_of_cell (HX0.out.2.2))).trans (HX0.out.2.2))))
  have HB := Lib.hid (Base.then_below HB.out b4)
  clear b4
  go_wp2
  go_ret
  exact ⟨rfl, HB.out⟩

set_option maxRecDepth 1000000 in
theorem lifted (os : Os) (started : os.Started) (H : Type) (enc : TypeId × Value → H) :
    ReturnsInHanded {} Try.checked os 3 .any (Rows.fnExactIsHopSpec.pre6 enc Try.prog Try.f3 Rows.fnExactIsHopRow.domain false) (Rows.fnExactIsHopSpec.post enc Try.prog Try.f3 false true false false) := by
  refine returnsInHanded_of_change (C := Try.checked) own started (by kernel_rfl) Try.func3
    (ChangeSpec.witness6 (enc := enc) (C := Try.checked) false ⟨#[], #[.agg #[.int .i64 0, .int .i64 0, .int .i64 0]], []⟩ 8 (by kernel_rfl) (by kernel_rfl) (by kernel_rfl) (by kernel_rfl)) ?_
  intro W base args ds gs before hval0 hW hcnd _
  have hval : ∀ (j : Nat) t v, Try.f3.params[j]? = some t → args[j]? = some v → Value.okWide Try.prog W .any base t v := hval0
  have hW' := hW
  obtain ⟨p, q, hA0, hV, rfl, hfz, hnd⟩ := hW
  have hA : DataW.TrodAll enc Try.prog W 0 (fun _ => true) true Try.f3.params.toList args.toList ds p := hA0
  rw [Try.params3] at hA hval
  obtain ⟨v0, vs0, d0, ds0, p0, q0, hargs, rfl, rfl, h0, r0⟩ := trodAll_cons hA
  obtain ⟨rfl, rfl, rfl⟩ := trodAll_nil r0
  obtain rfl : args = #[v0] := by cases args; simp_all
  obtain ⟨rfl, rfl⟩ := trodVars_none hV
  have k0 := h0
  obtain ⟨a0, rfl, w0⟩ := Hps.open_val (hval 0 23 v0 rfl rfl) h0
  clear hA0 hval0
  simp only [List.append_nil] at hW'
  refine (walk a0 w0 W ).mono fun e W' ⟨he, hb⟩ => ?_
  subst he
  exact ⟨_, rfl, ⟨_, _, _, [], _, [], hW', (trodAll_cons_mk (shut_bool Try.underlying4 _) trodAll_mk0), (trodAll_cons_mk (Below.trod laidOut (by kernel_rfl) (of_decide_eq_true (by kernel_rfl)) k0 hb (fun x hx => hW'.lt x (by simp [hx]))) trodAll_mk0), rfl, hb.frame _, fun h => by cases h⟩⟩

theorem over : Rows.fnExactIsHopRow.holds Try.pinned (OpenSpec.ofChange Rows.fnExactIsHopSpec) :=
  OpenClaim.holds_of_wide 3 Try.f3 rfl rfl rfl rfl rfl rfl rfl ⟨rfl, rfl, rfl, rfl, rfl⟩ rfl rfl rfl rfl rfl (by kernel_rfl) Try.func3 (by kernel_rfl)
    (of_decide_eq_true (by kernel_rfl)) (by unfold Func.isWrapper; first | (rw [if_pos (by decide +kernel)]; kernel_rfl) | (rw [if_neg (by decide +kernel)]; exact ⟨rfl, rfl⟩))
    (fun os started H enc _ => lifted os started H enc)

/-- The given statement. -/
theorem proved : Rows.FnExactIsHopSaid :=
  over
#print axioms proved
end Go.Proofs.Ytnffoifkinpmpaa.fnExactIsHop
