/-
  PROVED: at any list of fields the program's AreFields returns what its model returns and writes into no argument: the exact law of AreFields returns true and leaves its argument as it was. CONDITION: the library's tables that the row lists read as the library's text lays them (the card ties them to the text); the proof does not use them.
-/
import Derived.Test.YtdnnnkilbflhlaaDoorBase
import Derived.Carry
import Derived.Test.YtdnnnkilbflhlaaDoorFldArg
import Derived.Test.YtdnnnkilbflhlaaDoorFldCopy
import Derived.Test.YtdnnnkilbflhlaaDoorFldEq
import Derived.Test.YtdnnnkilbflhlaaDoorFldAre
import Derived.Test.YtdnnnkilbflhlaaDoorTie
import Derived.Test.YtdnnnkilbflhlaaDoorCards
import Derived.LaidMore
import Derived.Lay
import Derived.OpenVars
import Derived.Stop.LaidErr
namespace Go.Proofs.YtdnnnkilbflhlaaDoor.fnExactAreFields
open Go.ChangeShapes Go.WideShapes Go.ChangeAt Go.RowKit
set_option linter.unusedVariables false

theorem own : ownKnob Tryd.prog.godebug = none := by kernel_rfl

theorem laidOut : laidOutB Tryd.prog = true := by kernel_rfl

set_option maxHeartbeats 1000000 in
theorem walk (v0 : Value) (z0 : List Flds.Fld) (w0 : z0.length ≤ maxLen ∧ (∀ f ∈ z0, f.1.length ≤ maxLen ∧ f.2.length ≤ maxLen)) (w : World) (y0 : Flds.Holds w w.heap.size v0 z0) :
    Calls Tryd.prog 4 #[v0] w fun e w' => e = .returned (.bool true) ∧ Below w.heap.size w w' := by
  have HW0 := Lib.hid w0
  have HY0 := Lib.hid y0
  clear w0 y0
  have HB := Lib.hid (Below.refl w.heap.size w)
  go_enter Tryd.func4, Tryd.ntmps4
  go_wp2_with (fail)
  go_at_call 19
  refine (Flds.size_any _ _ z0 _ _ HY0.out HW0.out.1 HW0.out.2 (by decide) (by decide)).mono ?_
  rintro e x1 ⟨z, rfl, hz, b1⟩
  have hs1 := b1.size
  have HY0 := Lib.hid (Flds.holds_below HY0.out (b1.mono (by omega)))
  have HB := Lib.hid (Base.then_below HB.out b1)
  clear b1
  rcases hz with hz | ⟨hz, ht⟩
  · go_wp2
    go_ret
    exact ⟨rfl, HB.out⟩
  have hzn : ¬ z < 0 := by omega
  have hl0 : z0.length ≤ 1048576 := by unfold Flds.total at ht; omega
  have HL0 := Lib.hid hl0
  have HT0 : Hid (Flds.total z0 ≤ 1048576) := Lib.hid (by omega)
  clear ht hl0
  go_wp2_with (fail)
  go_at_call 20
  refine (Flds.copy _ _ z0 _ HY0.out HL0.out).mono ?_
  rintro e x2 ⟨vA, rfl, oA, b2⟩
  have hs2 := b2.size
  have HY0 := Lib.hid (Flds.holds_below HY0.out (b2.mono (by omega)))
  have HB := Lib.hid (Base.then_below HB.out b2)
  clear b2
  have HA := Lib.hid (Flds.own_holds oA)
  clear oA
  go_wp2_with (fail)
  go_at_call 17
  refine (Flds.spec_are vA _ z0 _ HA.out (Nat.le_refl _) HT0.out).mono ?_
  rintro e x3 ⟨rfl, b3⟩
  have hs3 := b3.size
  have HY0 := Lib.hid (Flds.holds_below HY0.out (b3.mono (by omega)))
  have HB := Lib.hid (Base.then_below HB.out b3)
  clear b3
  generalize hr : Flds.fldsOk z0 = r
  go_wp2_with (fail)
  go_at_call 20
  refine (Flds.copy _ _ z0 _ HY0.out HL0.out).mono ?_
  rintro e x4 ⟨vX, rfl, oX, b4⟩
  have hs4 := b4.size
  have HY0 := Lib.hid (Flds.holds_below HY0.out (b4.mono (by omega)))
  have HB := Lib.hid (Base.then_below HB.out b4)
  clear b4
  have HX := Lib.hid (Flds.own_holds oX)
  clear oX
  go_wp2_with (fail)
  go_at_call 18
  refine (Flds.impl_are vX _ z0 _ HX.out (Nat.le_refl _) HT0.out).mono ?_
  rintro e x5 ⟨he, b5⟩
  have hs5 := b5.size
  rw [hr] at he
  subst he
  have HY0 := Lib.hid (Flds.holds_below HY0.out (b5.mono (by omega)))
  have HX := Lib.hid (Flds.holds_below HX.out (b5.mono (by omega)))
  have HB := Lib.hid (Base.then_below HB.out b5)
  clear b5
  go_wp2_with (fail)
  go_at_call 20
  refine (Flds.copy _ _ z0 _ HY0.out HL0.out).mono ?_
  rintro e x6 ⟨vC, rfl, oC, b6⟩
  have hs6 := b6.size
  have HY0 := Lib.hid (Flds.holds_below HY0.out (b6.mono (by omega)))
  have HX := Lib.hid (Flds.holds_below HX.out (b6.mono (by omega)))
  have HB := Lib.hid (Base.then_below HB.out b6)
  clear b6
  have HC := Lib.hid (Flds.own_holds oC)
  clear oC
  go_wp2_with (fail)
  go_at_call 21
  refine (Flds.eq_same vX vC _ _ z0 _ HX.out HC.out HL0.out).mono ?_
  rintro e x7 ⟨rfl, b7⟩
  have hs7 := b7.size
  have HB := Lib.hid (Base.then_below HB.out b7)
  clear b7
  go_wp2
  go_ret
  exact ⟨rfl, HB.out⟩

set_option maxRecDepth 100000 in
theorem lifted (os : Os) (started : os.Started) (H : Type) (enc : TypeId × Value → H) :
    ReturnsInHanded {} Tryd.checked os 4 .any (fun w args => (Rows.fnExactAreFieldsSpec.pre enc Tryd.prog Tryd.f4 [] false w args ∧ laidMetH Tryd.prog Rows.fnExactAreFieldsRow.laid w) ∧ sizedMet enc Tryd.prog Tryd.f4 (OpenSpec.ofChange Rows.fnExactAreFieldsSpec) false w args)
      (Rows.fnExactAreFieldsSpec.post enc Tryd.prog Tryd.f4 false true false false) := by
  refine returnsInHanded_of_change_and (C := Tryd.checked) (X := fun w _ => laidMetH Tryd.prog Rows.fnExactAreFieldsRow.laid w) (fun _ _ _ hh h => h.of_heap hh) own started (by kernel_rfl) Tryd.func4
    (ChangeSpec.witness_shaped (enc := enc) (C := Tryd.checked) (os := os) (X := fun w _ => laidMetH Tryd.prog Rows.fnExactAreFieldsRow.laid w) false (World.laidAll Tryd.prog os Rows.fnExactAreFieldsRow.laid) #[.slice none 0 0] 8 (World.laidAll_os _ _ _) (World.shaped_of_ZipB (by kernel_rfl) (by kernel_rfl)) (by kernel_rfl) (by kernel_rfl) (by kernel_rfl)
      (by rw [MakeChecks.laidMetH_plain _ _ _ (by kernel_rfl)]; exact laidMet_laidAll _ (by kernel_rfl) (by kernel_rfl))) ?_
  intro W base args ds gs before hval0 hW _ _ hL _
  have hval : ∀ (j : Nat) t v, Tryd.f4.params[j]? = some t → args[j]? = some v → Value.okWide Tryd.prog W .any base t v := hval0
  have hW' := hW
  obtain ⟨p, q, hA0, hV, rfl, hfz, hnd⟩ := hW
  have hA : DataW.TrodAll enc Tryd.prog W 0 (fun _ => true) true Tryd.f4.params.toList args.toList ds p := hA0
  rw [Tryd.params4] at hA hval
  obtain ⟨v0, vs0, d0, ds0, p0, q0, hargs, rfl, rfl, h0, r0⟩ := trodAll_cons hA
  obtain ⟨rfl, rfl, rfl⟩ := trodAll_nil r0
  obtain rfl : args = #[v0] := by cases args; simp_all
  obtain ⟨rfl, rfl⟩ := trodVars_none hV
  have k0 := h0
  obtain ⟨z0, y0, w01, w02⟩ := Flds.open_arg (hval 0 42 v0 rfl rfl) h0
  have w0 := And.intro w01 w02
  clear hA0 hval0
  simp only [List.append_nil] at hW'
  have hL' : laidMet Tryd.prog Rows.fnExactAreFieldsRow.laid W := by rw [← MakeChecks.laidMetH_plain _ _ _ (by kernel_rfl)]; exact hL
  refine (walk v0 z0 w0 W y0).mono fun e W' ⟨he, hb⟩ => ?_
  subst he
  exact ⟨_, rfl, ⟨_, _, _, [], _, [], hW', (trodAll_cons_mk (shut_bool Tryd.underlying4 _) trodAll_mk0), (trodAll_cons_mk (Below.trod laidOut (by kernel_rfl) (of_decide_eq_true (by kernel_rfl)) k0 hb (fun x hx => hW'.lt x (by simp [hx]))) trodAll_mk0), rfl, hb.frame _, fun h => by cases h⟩⟩

theorem over : Rows.fnExactAreFieldsRow.holds Tryd.pinned (OpenSpec.ofChange Rows.fnExactAreFieldsSpec) :=
  OpenClaim.holds_of_wide 4 Tryd.f4 rfl rfl rfl rfl rfl rfl rfl ⟨rfl, rfl, rfl, rfl, rfl⟩ rfl rfl rfl rfl rfl (by kernel_rfl) Tryd.func4 (by kernel_rfl)
    (of_decide_eq_true (by kernel_rfl)) (by unfold Func.isWrapper; first | (rw [if_pos (by decide +kernel)]; kernel_rfl) | (rw [if_neg (by decide +kernel)]; exact ⟨rfl, rfl⟩))
    (fun os started H enc _ => lifted os started H enc)

/-- The given statement: the law's card, tied. -/
theorem proved : Rows.FnExactAreFieldsCardSaid :=
  Claim7.holds_tied_plain_at .later [] _ true _ _
    over (fun _ h => by cases h) (by kernel_rfl) (fun _ h => by cases h) fnExactAreFields_row_tie rfl ⟨rfl, rfl⟩ (by kernel_rfl) rfl
    (fun f fn hf hfn => by
      obtain rfl : f = 4 := Option.some.inj ((show Tryd.prog.funcNamed "loop.example/g03012/laws.FnExactAreFields" = some 4 by kernel_rfl).symm.trans hf) |>.symm
      obtain rfl : fn = Tryd.f4 := (Option.some.inj (Tryd.func4.symm.trans hfn)).symm
      exact ⟨by kernel_rfl, fun j t ht => by
        rw [Tryd.params4] at ht
        have hm : t ∈ [42] := by simpa using Array.mem_of_getElem? ht
        have hall : ([42].all fun u => !Tryd.prog.wantsStandIn u) = true := by kernel_rfl
        exact (show Tryd.prog.wantsStandIn t = false by simpa using List.all_eq_true.1 hall t hm)⟩)
    (by kernel_rfl)
#print axioms proved
end Go.Proofs.YtdnnnkilbflhlaaDoor.fnExactAreFields
