/-
  PROVED: at any list of asks the program's FormatRanges returns what its model returns and writes into no argument: the exact law of FormatRanges returns true and leaves its argument as it was. CONDITION: the library's table of powers of ten that the row lists reads as the library's text lays it (the card ties it to the text of the pruned project).
-/
import Derived.Test.YtmdmckhlfcogfaaDoorBase
import Derived.Carry
import Derived.Test.YtmdmckhlfcogfaaDoorAsksArg
import Derived.Test.YtmdmckhlfcogfaaDoorAsksCp
import Derived.Test.YtmdmckhlfcogfaaDoorRngF
import Derived.Test.YtmdmckhlfcogfaaDoorLaidTens
import Derived.Test.YtmdmckhlfcogfaaDoorTie
import Derived.Test.YtmdmckhlfcogfaaDoorCards
import Derived.LaidMore
import Derived.Lay
import Derived.OpenVars
import Derived.Stop.LaidErr
namespace Go.Proofs.YtmdmckhlfcogfaaDoor.fnExactFormatRanges
open Go.ChangeShapes Go.WideShapes Go.ChangeAt Go.RowKit
set_option linter.unusedVariables false

theorem own : ownKnob Tryd.prog.godebug = none := by kernel_rfl

theorem laidOut : laidOutB Tryd.prog = true := by kernel_rfl

set_option maxHeartbeats 4000000 in
theorem walk (v0 : Value) (z0 : List Asks.T) (w0 : z0.length ≤ maxLen ∧ (∀ f ∈ z0, Asks.Ok f)) (w : World) (y0 : Asks.Holds w w.heap.size v0 z0) (ht : Fmt.Tens w) :
    Calls Tryd.prog 3 #[v0] w fun e w' => e = .returned (.bool true) ∧ Below w.heap.size w w' := by
  have HW0 := Lib.hid w0
  have HY0 := Lib.hid y0
  clear w0 y0
  have HTN := Lib.hid ht
  clear ht
  have HB := Lib.hid (Below.refl w.heap.size w)
  go_enter Tryd.func3, Tryd.ntmps3
  go_wp2_with (fail)
  go_at_call 6
  refine (Asks.size_any _ _ z0 _ _ HY0.out HW0.out.1 HW0.out.2 (by decide) (by decide)).mono ?_
  rintro e x1 ⟨z_0, rfl, hz0, b1⟩
  have hs1 := b1.size
  have HY0 := Lib.hid (Asks.holds_below HY0.out (b1.mono (by omega)))
  have HB := Lib.hid (Base.then_below HB.out b1)
  clear b1
  rcases hz0 with hz0 | ⟨hz0, ht0⟩
  · go_wp2
    go_ret
    exact ⟨rfl, HB.out⟩
  have hzn0 : ¬ z_0 < 0 := by omega
  have HZ0 : Hid (z_0 + ((Asks.total z0 : Nat) : Int) = 1048576) := Lib.hid (by omega)
  clear ht0
  have HT0 : Hid (Asks.total z0 ≤ 1048576) := Lib.hid (by have := HZ0.out; omega)
  have HL0 : Hid (z0.length ≤ 1048576) := Lib.hid (Nat.le_trans (Asks.len_le_total z0) HT0.out)
  obtain ⟨r, hr⟩ : ∃ z, z = Rng.frng z0 := ⟨_, rfl⟩
  have HGr := Lib.hid hr
  clear hr
  go_wp2_with (fail)
  go_at_call 8
  refine (Asks.copy _ _ _ _ HY0.out HL0.out).mono ?_
  rintro e x2 ⟨vA0, rfl, oA0, b2⟩
  have hs2 := b2.size
  have HY0 := Lib.hid (Asks.holds_below HY0.out (b2.mono (by omega)))
  have HB := Lib.hid (Base.then_below HB.out b2)
  clear b2
  have HA0 := Lib.hid (Asks.own_holds oA0)
  clear oA0
  go_wp2_with (fail)
  go_at_call 7
  refine (Rng.spec_frng vA0 _ z0 _ HA0.out (by omega) HL0.out HW0.out.2).mono ?_
  rintro e x3 ⟨he, b3⟩
  rw [← HGr.out] at he
  subst he
  have hs3 := b3.size
  have HY0 := Lib.hid (Asks.holds_below HY0.out (b3.mono (by omega)))
  have HB := Lib.hid (Base.then_below HB.out b3)
  clear b3
  go_wp2_with (fail)
  go_at_call 8
  refine (Asks.copy _ _ _ _ HY0.out HL0.out).mono ?_
  rintro e x4 ⟨vX0, rfl, oX0, b4⟩
  have hs4 := b4.size
  have HY0 := Lib.hid (Asks.holds_below HY0.out (b4.mono (by omega)))
  have HB := Lib.hid (Base.then_below HB.out b4)
  clear b4
  have HX0 := Lib.hid (Asks.own_holds oX0)
  clear oX0
  go_wp2_with (fail)
  go_at_call 9
  refine (Rng.impl_frng vX0 _ z0 _ HX0.out (by omega) HL0.out HW0.out.2 (Fmt.tens_below HTN.out HB.out)).mono ?_
  rintro e x5 ⟨he, b5⟩
  rw [← HGr.out] at he
  subst he
  have hs5 := b5.size
  have HY0 := Lib.hid (Asks.holds_below HY0.out (b5.mono (by omega)))
  have HX0 := Lib.hid (Asks.holds_below HX0.out (b5.mono (by omega)))
  have HB := Lib.hid (Base.then_below HB.out b5)
  clear b5
  go_wp2_with (fail)
  go_at_call 8
  refine (Asks.copy _ _ _ _ HY0.out HL0.out).mono ?_
  rintro e x6 ⟨vC0, rfl, oC0, b6⟩
  have hs6 := b6.size
  have HY0 := Lib.hid (Asks.holds_below HY0.out (b6.mono (by omega)))
  have HX0 := Lib.hid (Asks.holds_below HX0.out (b6.mono (by omega)))
  have HB := Lib.hid (Base.then_below HB.out b6)
  clear b6
  have HC0 := Lib.hid (Asks.own_holds oC0)
  clear oC0
  go_wp2_with (fail)
  go_at_call 10
  refine (Asks.eq_same vX0 vC0 _ _ z0 _ HX0.out HC0.out HL0.out).mono ?_
  rintro e x7 ⟨rfl, b7⟩
  have hs7 := b7.size
  have HY0 := Lib.hid (Asks.holds_below HY0.out (b7.mono (by omega)))
  have HB := Lib.hid (Base.then_below HB.out b7)
  clear b7
  go_wp2
  go_ret
  exact ⟨rfl, HB.out⟩

set_option maxRecDepth 100000 in
theorem lifted (os : Os) (started : os.Started) (H : Type) (enc : TypeId × Value → H) :
    ReturnsInHanded {} Tryd.checked os 3 .any (fun w args => (Rows.fnExactFormatRangesSpec.pre enc Tryd.prog Tryd.f3 [] false w args ∧ laidMetH Tryd.prog Rows.fnExactFormatRangesRow.laid w) ∧ sizedMet enc Tryd.prog Tryd.f3 (OpenSpec.ofChange Rows.fnExactFormatRangesSpec) false w args)
      (Rows.fnExactFormatRangesSpec.post enc Tryd.prog Tryd.f3 false true false false) := by
  refine returnsInHanded_of_change_and (C := Tryd.checked) (X := fun w _ => laidMetH Tryd.prog Rows.fnExactFormatRangesRow.laid w) (fun _ _ _ hh h => h.of_heap hh) own started (by kernel_rfl) Tryd.func3
    (ChangeSpec.witness_shaped (enc := enc) (C := Tryd.checked) (os := os) (X := fun w _ => laidMetH Tryd.prog Rows.fnExactFormatRangesRow.laid w) false (World.doorLaid Tryd.prog 400 os) #[.slice none 0 0] 8 rfl (World.shaped_of_RefB (by kernel_rfl) (by kernel_rfl)) (by kernel_rfl) (by kernel_rfl) (by kernel_rfl)
      (by rw [MakeChecks.laidMetH_plain _ _ _ (by kernel_rfl)]; exact laidMet_of_run' 8 (by kernel_rfl) (by kernel_rfl))) ?_
  intro W base args ds gs before hval0 hW _ _ hL _
  have hval : ∀ (j : Nat) t v, Tryd.f3.params[j]? = some t → args[j]? = some v → Value.okWide Tryd.prog W .any base t v := hval0
  have hW' := hW
  obtain ⟨p, q, hA0, hV, rfl, hfz, hnd⟩ := hW
  have hA : DataW.TrodAll enc Tryd.prog W 0 (fun _ => true) true Tryd.f3.params.toList args.toList ds p := hA0
  rw [Tryd.params3] at hA hval
  obtain ⟨v0, vs0, d0, ds0, p0, q0, hargs, rfl, rfl, h0, r0⟩ := trodAll_cons hA
  obtain ⟨rfl, rfl, rfl⟩ := trodAll_nil r0
  obtain rfl : args = #[v0] := by cases args; simp_all
  obtain ⟨rfl, rfl⟩ := trodVars_none hV
  have k0 := h0
  obtain ⟨z0, y0, w01, w02⟩ := Asks.open_arg (hval 0 22 v0 rfl rfl) h0
  have w0 := And.intro w01 w02
  clear hA0 hval0
  simp only [List.append_nil] at hW'
  have hL' : laidMet Tryd.prog Rows.fnExactFormatRangesRow.laid W := by rw [← MakeChecks.laidMetH_plain _ _ _ (by kernel_rfl)]; exact hL
  refine (walk v0 z0 w0 W y0 (Laid.tens hL' (by simp [Rows.fnExactFormatRangesRow]))).mono fun e W' ⟨he, hb⟩ => ?_
  subst he
  exact ⟨_, rfl, ⟨_, _, _, [], _, [], hW', (trodAll_cons_mk (shut_bool Tryd.underlying4 _) trodAll_mk0), (trodAll_cons_mk (Below.trod laidOut (by kernel_rfl) (of_decide_eq_true (by kernel_rfl)) k0 hb (fun x hx => hW'.lt x (by simp [hx]))) trodAll_mk0), rfl, hb.frame _, fun h => by cases h⟩⟩

theorem over : Rows.fnExactFormatRangesRow.holds Tryd.pinned (OpenSpec.ofChange Rows.fnExactFormatRangesSpec) :=
  OpenClaim.holds_of_wide 3 Tryd.f3 rfl rfl rfl rfl rfl rfl rfl ⟨rfl, rfl, rfl, rfl, rfl⟩ rfl rfl rfl rfl rfl (by kernel_rfl) Tryd.func3 (by kernel_rfl)
    (of_decide_eq_true (by kernel_rfl)) (by unfold Func.isWrapper; first | (rw [if_pos (by decide +kernel)]; kernel_rfl) | (rw [if_neg (by decide +kernel)]; exact ⟨rfl, rfl⟩))
    (fun os started H enc _ => lifted os started H enc)

/-- The given statement: the law's card, tied. -/
theorem proved : Rows.FnExactFormatRangesCardSaid :=
  Claim7.holds_tied_plain_at .later [] _ true _ _
    over (fun _ h => by cases h) (by kernel_rfl) (fun _ h => by cases h) fnExactFormatRanges_row_tie rfl ⟨rfl, rfl⟩ (by kernel_rfl) rfl
    (fun f fn hf hfn => by
      obtain rfl : f = 3 := Option.some.inj ((show Tryd.prog.funcNamed "loop.example/g03012/laws.FnExactFormatRanges" = some 3 by kernel_rfl).symm.trans hf) |>.symm
      obtain rfl : fn = Tryd.f3 := (Option.some.inj (Tryd.func3.symm.trans hfn)).symm
      exact ⟨by kernel_rfl, fun j t ht => by
        rw [Tryd.params3] at ht
        have hm : t ∈ [22] := by simpa using Array.mem_of_getElem? ht
        have hall : ([22].all fun u => !Tryd.prog.wantsStandIn u) = true := by kernel_rfl
        exact (show Tryd.prog.wantsStandIn t = false by simpa using List.all_eq_true.1 hall t hm)⟩)
    (by kernel_rfl)
#print axioms proved
end Go.Proofs.YtmdmckhlfcogfaaDoor.fnExactFormatRanges
