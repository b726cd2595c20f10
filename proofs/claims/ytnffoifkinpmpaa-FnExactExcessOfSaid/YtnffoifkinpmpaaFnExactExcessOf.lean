/-
  PROVED: at any list of hops the program's ExcessOf returns what its model returns and writes into no argument: the exact law of ExcessOf returns true and leaves its argument as it was. CONDITION: none.
-/
import Derived.Test.YtnffoifkinpmpaaBase
import Derived.Carry
import Derived.Test.YtnffoifkinpmpaaHpsArg
import Derived.Test.YtnffoifkinpmpaaHpsCp
import Derived.Test.YtnffoifkinpmpaaHopAre
namespace Go.Proofs.Ytnffoifkinpmpaa.fnExactExcessOf
open Go.ChangeShapes Go.WideShapes Go.ChangeAt Go.RowKit
set_option linter.unusedVariables false
set_option maxRecDepth 1000000

theorem own : ownKnob Try.prog.godebug = none := by kernel_rfl

theorem laidOut : laidOutB Try.prog = true := by kernel_rfl

set_option maxHeartbeats 4000000 in
theorem walk (v0 : Value) (z0 : List Hps.T) (w0 : z0.length ≤ maxLen ∧ (∀ f ∈ z0, Hps.Ok f)) (w : World) (y0 : Hps.Holds w w.heap.size v0 z0) :
    Calls Try.prog 5 #[v0] w fun e w' => e = .returned (.bool true) ∧ Below w.heap.size w w' := by
  have HW0 := Lib.hid w0
  have HY0 := Lib.hid y0
  clear w0 y0
  have HB := Lib.hid (Below.refl w.heap.size w)
  go_enter Try.func5, Try.ntmps5
  go_wp2_with (fail)
  go_at_call 14
  refine (Hps.size_any _ _ z0 _ _ HY0.out HW0.out.1 HW0.out.2 (by decide) (by decide)).mono ?_
  rintro e x1 ⟨z_0, rfl, hz0, b1⟩
  have hs1 := b1.size
  have HY0 := Lib.hid (Hps.holds_below HY0.out (b1.mono (by omega)))
  have HB := Lib.hid (Base.then_below HB.out b1)
  clear b1
  rcases hz0 with hz0 | ⟨hz0, ht0⟩
  · go_wp2
    go_ret
    exact ⟨rfl, HB.out⟩
  have hzn0 : ¬ z_0 < 0 := by omega
  have HZ0 : Hid (z_0 + ((Hps.total z0 : Nat) : Int) = 1048576) := Lib.hid (by omega)
  clear ht0
  have HT0 : Hid (Hps.total z0 ≤ 1048576) := Lib.hid (by have := HZ0.out; omega)
  have HL0 : Hid (z0.length ≤ 1048576) := Lib.hid (Nat.le_trans (Hps.len_le_total z0) HT0.out)
  obtain ⟨r, hr⟩ : ∃ z, z = Hps.exc z0 := ⟨_, rfl⟩
  have HGr := Lib.hid hr
  clear hr
  go_wp2_with (fail)
  go_at_call 16
  refine (Hps.copy _ _ _ _ HY0.out HL0.out).mono ?_
  rintro e x2 ⟨vA0, rfl, oA0, b2⟩
  have hs2 := b2.size
  have HY0 := Lib.hid (Hps.holds_below HY0.out (b2.mono (by omega)))
  have HB := Lib.hid (Base.then_below HB.out b2)
  clear b2
  have HA0 := Lib.hid (Hps.own_holds oA0)
  clear oA0
  go_wp2_with (fail)
  go_at_call 19
  refine (Hps.spec_exc vA0 _ z0 _ HA0.out (by omega) (by have := HL0.out; omega)).mono ?_
  rintro e x3 ⟨he, b3⟩
  rw [← HGr.out] at he
  subst he
  have hs3 := b3.size
  have HY0 := Lib.hid (Hps.holds_below HY0.out (b3.mono (by omega)))
  have HB := Lib.hid (Base.then_below HB.out b3)
  clear b3
  go_wp2_with (fail)
  go_at_call 16
  refine (Hps.copy _ _ _ _ HY0.out HL0.out).mono ?_
  rintro e x4 ⟨vX0, rfl, oX0, b4⟩
  have hs4 := b4.size
  have HY0 := Lib.hid (Hps.holds_below HY0.out (b4.mono (by omega)))
  have HB := Lib.hid (Base.then_below HB.out b4)
  clear b4
  have HX0 := Lib.hid (Hps.own_holds oX0)
  clear oX0
  go_wp2_with (fail)
  go_at_call 20
  refine (Hps.impl_exc vX0 _ z0 _ HX0.out (by omega) (by have := HL0.out; omega)).mono ?_
  rintro e x5 ⟨he, b5⟩
  rw [← HGr.out] at he
  subst he
  have hs5 := b5.size
  have HY0 := Lib.hid (Hps.holds_below HY0.out (b5.mono (by omega)))
  have HX0 := Lib.hid (Hps.holds_below HX0.out (b5.mono (by omega)))
  have HB := Lib.hid (Base.then_below HB.out b5)
  clear b5
  go_wp2_with (fail)
  go_at_call 16
  refine (Hps.copy _ _ _ _ HY0.out HL0.out).mono ?_
  rintro e x6 ⟨vC0, rfl, oC0, b6⟩
  have hs6 := b6.size
  have HY0 := Lib.hid (Hps.holds_below HY0.out (b6.mono (by omega)))
  have HX0 := Lib.hid (Hps.holds_below HX0.out (b6.mono (by omega)))
  have HB := Lib.hid (Base.then_below HB.out b6)
  clear b6
  have HC0 := Lib.hid (Hps.own_holds oC0)
  clear oC0
  go_wp2_with (fail)
  go_at_call 18
  refine (Hps.eq_same vX0 vC0 _ _ z0 _ HX0.out HC0.out HL0.out).mono ?_
  rintro e x7 ⟨rfl, b7⟩
  have hs7 := b7.size
  have HY0 := Lib.hid (Hps.holds_below HY0.out (b7.mono (by omega)))
  have HB := Lib.hid (Base.then_below HB.out b7)
  clear b7
  go_wp2
  go_ret
  exact ⟨rfl, HB.out⟩

set_option maxRecDepth 1000000 in
theorem lifted (os : Os) (started : os.Started) (H : Type) (enc : TypeId × Value → H) :
    ReturnsInHanded {} Try.checked os 5 .any (Rows.fnExactExcessOfSpec.pre6 enc Try.prog Try.f5 Rows.fnExactExcessOfRow.domain false) (Rows.fnExactExcessOfSpec.post enc Try.prog Try.f5 false true false false) := by
  refine returnsInHanded_of_change (C := Try.checked) own started (by kernel_rfl) Try.func5
    (ChangeSpec.witness6 (enc := enc) (C := Try.checked) false ⟨#[], #[.slice none 0 0], []⟩ 8 (by kernel_rfl) (by kernel_rfl) (by kernel_rfl) (by kernel_rfl)) ?_
  intro W base args ds gs before hval0 hW hcnd _
  have hval : ∀ (j : Nat) t v, Try.f5.params[j]? = some t → args[j]? = some v → Value.okWide Try.prog W .any base t v := hval0
  have hW' := hW
  obtain ⟨p, q, hA0, hV, rfl, hfz, hnd⟩ := hW
  have hA : DataW.TrodAll enc Try.prog W 0 (fun _ => true) true Try.f5.params.toList args.toList ds p := hA0
  rw [Try.params5] at hA hval
  obtain ⟨v0, vs0, d0, ds0, p0, q0, hargs, rfl, rfl, h0, r0⟩ := trodAll_cons hA
  obtain ⟨rfl, rfl, rfl⟩ := trodAll_nil r0
  obtain rfl : args = #[v0] := by cases args; simp_all
  obtain ⟨rfl, rfl⟩ := trodVars_none hV
  have k0 := h0
  obtain ⟨z0, y0, w01, w02⟩ := Hps.open_arg (hval 0 28 v0 rfl rfl) h0
  have w0 := And.intro w01 w02
  clear hA0 hval0
  simp only [List.append_nil] at hW'
  refine (walk v0 z0 w0 W y0).mono fun e W' ⟨he, hb⟩ => ?_
  subst he
  exact ⟨_, rfl, ⟨_, _, _, [], _, [], hW', (trodAll_cons_mk (shut_bool Try.underlying4 _) trodAll_mk0), (trodAll_cons_mk (Below.trod laidOut (by kernel_rfl) (of_decide_eq_true (by kernel_rfl)) k0 hb (fun x hx => hW'.lt x (by simp [hx]))) trodAll_mk0), rfl, hb.frame _, fun h => by cases h⟩⟩

theorem over : Rows.fnExactExcessOfRow.holds Try.pinned (OpenSpec.ofChange Rows.fnExactExcessOfSpec) :=
  OpenClaim.holds_of_wide 5 Try.f5 rfl rfl rfl rfl rfl rfl rfl ⟨rfl, rfl, rfl, rfl, rfl⟩ rfl rfl rfl rfl rfl (by kernel_rfl) Try.func5 (by kernel_rfl)
    (of_decide_eq_true (by kernel_rfl)) (by unfold Func.isWrapper; first | (rw [if_pos (by decide +kernel)]; kernel_rfl) | (rw [if_neg (by decide +kernel)]; exact ⟨rfl, rfl⟩))
    (fun os started H enc _ => lifted os started H enc)

/-- The given statement. -/
theorem proved : Rows.FnExactExcessOfSaid :=
  over
#print axioms proved
end Go.Proofs.Ytnffoifkinpmpaa.fnExactExcessOf
