/-
  PROVED: at any list of parts the program's ArePageParts returns what its model returns and writes into no argument: the exact law of ArePageParts returns true and leaves its argument as it was. CONDITION: the library's errors read as their text lays them, the other listed variables as pinned (the card ties them to the text of the pruned project).
-/
import Derived.Test.YtkedndamkjnmkaaGreatDoorBase
import Derived.Carry
import Derived.Test.YtkedndamkjnmkaaGreatDoorPrtArg
import Derived.Test.YtkedndamkjnmkaaGreatDoorPrtCp
import Derived.Test.YtkedndamkjnmkaaGreatDoorPap
import Derived.Test.YtkedndamkjnmkaaGreatDoorLaidErrs
import Derived.Test.YtkedndamkjnmkaaGreatDoorAndSh
import Derived.Test.YtkedndamkjnmkaaGreatDoorTie
import Derived.Test.YtkedndamkjnmkaaGreatDoorCards
import Derived.LaidMore
import Derived.Lay
import Derived.OpenVars
import Derived.Stop.LaidErr
namespace Go.Proofs.YtkedndamkjnmkaaGreatDoor.fnExactArePageParts
open Go.ChangeShapes Go.WideShapes Go.ChangeAt Go.RowKit
set_option linter.unusedVariables false
set_option maxRecDepth 1000000

theorem own : ownKnob Tryz.prog.godebug = none := by kernel_rfl

theorem laidOut : laidOutB Tryz.prog = true := by kernel_rfl

set_option maxHeartbeats 4000000 in
theorem walk (v0 : Value) (z0 : List Prt.T) (w0 : z0.length ≤ maxLen ∧ (∀ f ∈ z0, Prt.Ok f)) (w : World) (y0 : Prt.Holds w w.heap.size v0 z0) (her : Par.Errs w) (hmx : Sh.MxL w) :
    Calls Tryz.prog 6 #[v0] w fun e w' => e = .returned (.bool true) ∧ Below w.heap.size w w' := by
  have HW0 := Lib.hid w0
  have HY0 := Lib.hid y0
  clear w0 y0
  have HER := Lib.hid her
  have HMX := Lib.hid hmx
  clear her hmx
  have HB := Lib.hid (Below.refl w.heap.size w)
  go_enter Tryz.func6, Tryz.ntmps6
  go_wp2_with (fail)
  go_at_call 16
  refine (Prt.size_any _ _ z0 _ _ HY0.out HW0.out.1 HW0.out.2 (by decide) (by decide)).mono ?_
  rintro e x1 ⟨z_0, rfl, hz0, b1⟩
  have hs1 := b1.size
  have HY0 := Lib.hid (Prt.holds_below HY0.out (b1.mono (by omega)))
  have HB := Lib.hid (Base.then_below HB.out b1)
  clear b1
  rcases hz0 with hz0 | ⟨hz0, ht0⟩
  · go_wp2
    go_ret
    exact ⟨rfl, HB.out⟩
  have hzn0 : ¬ z_0 < 0 := by omega
  have HZ0 : Hid (z_0 + ((Prt.total z0 : Nat) : Int) = 1048576) := Lib.hid (by omega)
  clear ht0
  have HT0 : Hid (Prt.total z0 ≤ 1048576) := Lib.hid (by have := HZ0.out; omega)
  have HL0 : Hid (z0.length ≤ 1048576) := Lib.hid (Nat.le_trans (Prt.len_le_total z0) HT0.out)
  obtain ⟨r, hr⟩ : ∃ z, z = Prt.okp z0 := ⟨_, rfl⟩
  have HGr := Lib.hid hr
  clear hr
  go_wp2_with (fail)
  go_at_call 18
  refine (Prt.copy _ _ _ _ HY0.out HL0.out).mono ?_
  rintro e x2 ⟨vA0, rfl, oA0, b2⟩
  have hs2 := b2.size
  have HY0 := Lib.hid (Prt.holds_below HY0.out (b2.mono (by omega)))
  have HB := Lib.hid (Base.then_below HB.out b2)
  clear b2
  have HA0 := Lib.hid (Prt.own_holds oA0)
  clear oA0
  go_wp2_with (fail)
  go_at_call 17
  refine (Prt.spec_are vA0 _ z0 _ HA0.out (by omega) HT0.out).mono ?_
  rintro e x3 ⟨he, b3⟩
  rw [← HGr.out] at he
  subst he
  have hs3 := b3.size
  have HY0 := Lib.hid (Prt.holds_below HY0.out (b3.mono (by omega)))
  have HB := Lib.hid (Base.then_below HB.out b3)
  clear b3
  go_wp2_with (fail)
  go_at_call 18
  refine (Prt.copy _ _ _ _ HY0.out HL0.out).mono ?_
  rintro e x4 ⟨vX0, rfl, oX0, b4⟩
  have hs4 := b4.size
  have HY0 := Lib.hid (Prt.holds_below HY0.out (b4.mono (by omega)))
  have HB := Lib.hid (Base.then_below HB.out b4)
  clear b4
  have HX0 := Lib.hid (Prt.own_holds oX0)
  clear oX0
  go_wp2_with (fail)
  go_at_call 19
  refine (Prt.impl_are vX0 _ z0 _ HX0.out (by omega) HT0.out (Par.errs_below HER.out HB.out) (Sh.mxl_below HMX.out HB.out)).mono ?_
  rintro e x5 ⟨he, b5⟩
  rw [← HGr.out] at he
  subst he
  have hs5 := b5.size
  have HY0 := Lib.hid (Prt.holds_below HY0.out (b5.mono (by omega)))
  have HX0 := Lib.hid (Prt.holds_below HX0.out (b5.mono (by omega)))
  have HB := Lib.hid (Base.then_below HB.out b5)
  clear b5
  go_wp2_with (fail)
  go_at_call 18
  refine (Prt.copy _ _ _ _ HY0.out HL0.out).mono ?_
  rintro e x6 ⟨vC0, rfl, oC0, b6⟩
  have hs6 := b6.size
  have HY0 := Lib.hid (Prt.holds_below HY0.out (b6.mono (by omega)))
  have HX0 := Lib.hid (Prt.holds_below HX0.out (b6.mono (by omega)))
  have HB := Lib.hid (Base.then_below HB.out b6)
  clear b6
  have HC0 := Lib.hid (Prt.own_holds oC0)
  clear oC0
  go_wp2_with (fail)
  go_at_call 20
  refine (Prt.eq_same vX0 vC0 _ _ z0 _ HX0.out HC0.out HL0.out).mono ?_
  rintro e x7 ⟨rfl, b7⟩
  have hs7 := b7.size
  have HY0 := Lib.hid (Prt.holds_below HY0.out (b7.mono (by omega)))
  have HB := Lib.hid (Base.then_below HB.out b7)
  clear b7
  go_wp2
  go_ret
  exact ⟨rfl, HB.out⟩

set_option maxRecDepth 1000000 in
theorem lifted (os : Os) (started : os.Started) (H : Type) (enc : TypeId × Value → H) :
    ReturnsInHanded {} Tryz.checked os 6 .any (fun w args => (Rows.fnExactArePagePartsSpec.pre enc Tryz.prog Tryz.f6 [] false w args ∧ laidMetH Tryz.prog Rows.fnExactArePagePartsRow.laid w) ∧ sizedMet enc Tryz.prog Tryz.f6 (OpenSpec.ofChange Rows.fnExactArePagePartsSpec) false w args)
      (Rows.fnExactArePagePartsSpec.post enc Tryz.prog Tryz.f6 false true false false) := by
  refine Sh.and_shaped (C := Tryz.checked) (X := fun w _ => laidMetH Tryz.prog Rows.fnExactArePagePartsRow.laid w) (fun _ _ _ hh h => h.of_heap hh) own started (by kernel_rfl) Tryz.func6
    (ChangeSpec.witness_shaped (enc := enc) (C := Tryz.checked) (os := os) (X := fun w _ => laidMetH Tryz.prog Rows.fnExactArePagePartsRow.laid w) false (World.laidAll Tryz.prog os Rows.fnExactArePagePartsRow.laid) #[.slice none 0 0] 8 (World.laidAll_os _ _ _) (World.shaped_of_ZipB (by kernel_rfl) (by kernel_rfl)) (by kernel_rfl) (by kernel_rfl) (by kernel_rfl)
      (by rw [MakeChecks.laidMetH_plain _ _ _ (by kernel_rfl)]; exact laidMet_laidAll _ (by kernel_rfl) (by kernel_rfl))) ?_
  intro W base args ds gs before hval0 hW hsh hL
  have hval : ∀ (j : Nat) t v, Tryz.f6.params[j]? = some t → args[j]? = some v → Value.okWide Tryz.prog W .any base t v := hval0
  have hW' := hW
  obtain ⟨p, q, hA0, hV, rfl, hfz, hnd⟩ := hW
  have hA : DataW.TrodAll enc Tryz.prog W 0 (fun _ => true) true Tryz.f6.params.toList args.toList ds p := hA0
  rw [Tryz.params6] at hA hval
  obtain ⟨v0, vs0, d0, ds0, p0, q0, hargs, rfl, rfl, h0, r0⟩ := trodAll_cons hA
  obtain ⟨rfl, rfl, rfl⟩ := trodAll_nil r0
  obtain rfl : args = #[v0] := by cases args; simp_all
  obtain ⟨rfl, rfl⟩ := trodVars_none hV
  have k0 := h0
  obtain ⟨z0, y0, w01, w02⟩ := Prt.open_arg (hval 0 36 v0 rfl rfl) h0
  have w0 := And.intro w01 w02
  clear hA0 hval0
  simp only [List.append_nil] at hW'
  have hL' : laidMet Tryz.prog Rows.fnExactArePagePartsRow.laid W := by rw [← MakeChecks.laidMetH_plain _ _ _ (by kernel_rfl)]; exact hL
  refine (walk v0 z0 w0 W y0 (Laid.errs hL' (by simp [Rows.fnExactArePagePartsRow]) (by simp [Rows.fnExactArePagePartsRow])) (Sh.mxl_of hsh)).mono fun e W' ⟨he, hb⟩ => ?_
  subst he
  exact ⟨_, rfl, ⟨_, _, _, [], _, [], hW', (trodAll_cons_mk (shut_bool Tryz.underlying4 _) trodAll_mk0), (trodAll_cons_mk (Below.trod laidOut (by kernel_rfl) (of_decide_eq_true (by kernel_rfl)) k0 hb (fun x hx => hW'.lt x (by simp [hx]))) trodAll_mk0), rfl, hb.frame _, fun h => by cases h⟩⟩

theorem over : Rows.fnExactArePagePartsRow.holds Tryz.pinned (OpenSpec.ofChange Rows.fnExactArePagePartsSpec) :=
  OpenClaim.holds_of_wide 6 Tryz.f6 rfl rfl rfl rfl rfl rfl rfl ⟨rfl, rfl, rfl, rfl, rfl⟩ rfl rfl rfl rfl rfl (by kernel_rfl) Tryz.func6 (by kernel_rfl)
    (of_decide_eq_true (by kernel_rfl)) (by unfold Func.isWrapper; first | (rw [if_pos (by decide +kernel)]; kernel_rfl) | (rw [if_neg (by decide +kernel)]; exact ⟨rfl, rfl⟩))
    (fun os started H enc _ => lifted os started H enc)

/-- The given statement: the law's card, tied. -/
theorem proved : Rows.FnExactArePagePartsCardSaid :=
  Claim7.holds_tied_plain_at .later [] _ true _ _
    over (fun _ h => by cases h) (by kernel_rfl) (fun _ h => by cases h) fnExactArePageParts_row_tie rfl ⟨rfl, rfl⟩ (by kernel_rfl) rfl
    (fun f fn hf hfn => by
      obtain rfl : f = 6 := Option.some.inj ((show Tryz.prog.funcNamed "loop.example/g03012/laws.FnExactArePageParts" = some 6 by kernel_rfl).symm.trans hf) |>.symm
      obtain rfl : fn = Tryz.f6 := (Option.some.inj (Tryz.func6.symm.trans hfn)).symm
      exact ⟨by kernel_rfl, fun j t ht => by
        rw [Tryz.params6] at ht
        have hm : t ∈ [36] := by simpa using Array.mem_of_getElem? ht
        have hall : ([36].all fun u => !Tryz.prog.wantsStandIn u) = true := by kernel_rfl
        exact (show Tryz.prog.wantsStandIn t = false by simpa using List.all_eq_true.1 hall t hm)⟩)
    (by kernel_rfl)
#print axioms proved
end Go.Proofs.YtkedndamkjnmkaaGreatDoor.fnExactArePageParts
