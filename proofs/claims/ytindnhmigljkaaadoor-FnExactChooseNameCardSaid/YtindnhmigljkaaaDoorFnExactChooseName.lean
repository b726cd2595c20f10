/-
  PROVED: at any list of names and any text the program's ChooseName returns what its model returns and writes into no argument: the exact law of ChooseName returns true and leaves its arguments as they were. CONDITION: the library's two errors of numbers that the row lists read as the library's text lays them, the other listed variables as pinned (the card ties them to the text of the pruned project).
-/
import Derived.Test.YtindnhmigljkaaaDoorBase
import Derived.Carry
import Derived.Test.YtindnhmigljkaaaDoorCho
import Derived.Test.YtindnhmigljkaaaDoorStrArg
import Derived.Test.YtindnhmigljkaaaDoorStrEq
import Derived.Test.YtindnhmigljkaaaDoorLaidErrs
import Derived.Test.YtindnhmigljkaaaDoorAndSh
import Derived.Test.YtindnhmigljkaaaDoorTie
import Derived.Test.YtindnhmigljkaaaDoorCards
import Derived.LaidMore
import Derived.Lay
import Derived.OpenVars
import Derived.Stop.LaidErr
namespace Go.Proofs.YtindnhmigljkaaaDoor.fnExactChooseName
open Go.ChangeShapes Go.WideShapes Go.ChangeAt Go.RowKit
set_option linter.unusedVariables false
set_option maxRecDepth 1000000

theorem own : ownKnob Tryd.prog.godebug = none := by kernel_rfl

theorem laidOut : laidOutB Tryd.prog = true := by kernel_rfl

set_option maxHeartbeats 4000000 in
theorem walk (b0 : Option Addr) (l0 c0 : Nat) (z0 : List (List UInt8)) (a1 : ByteArray) (w0 : l0 ≤ maxLen ∧ z0.length = l0 ∧ (∀ x ∈ z0, x.length ≤ maxLen)) (w1 : a1.size ≤ maxLen) (w : World) (y0 : Strs.Holds w w.heap.size (.slice b0 l0 c0) z0) (her : Par.Errs w) (hmx : Sh.MxL w) :
    Calls Tryd.prog 4 #[.slice b0 l0 c0, .string a1] w fun e w' => e = .returned (.bool true) ∧ Below w.heap.size w w' := by
  obtain ⟨n1, rfl⟩ : ∃ n : List UInt8, a1 = ⟨n.toArray⟩ := ⟨a1.data.toList, rfl⟩
  have hsz1 : (⟨n1.toArray⟩ : ByteArray).size = n1.length := by simp [ByteArray.size]
  have hnl1 : n1.length ≤ 9223372036854775807 := by rw [hsz1] at w1; exact w1
  clear w1
  by_cases hbig1 : n1.length ≤ 1048576
  case neg =>
    go_enter Tryd.func4, Tryd.ntmps4
    go_wp2
    go_ret
    exact ⟨rfl, Below.refl _ _⟩
  obtain ⟨hm, hlen, hwf⟩ := w0
  have HW := Lib.hid hwf
  have HM := Lib.hid hm
  have HL := Lib.hid hlen
  have HY := Lib.hid y0
  have HER := Lib.hid her
  have HMX := Lib.hid hmx
  have HB := Lib.hid (Below.refl w.heap.size w)
  clear hwf hm hlen y0 her hmx
  go_enter Tryd.func4, Tryd.ntmps4
  go_wp2_with (fail)
  go_at_call 10
  refine (Strs.size_any _ _ z0 _ HY.out (by have := HM.out; have := HL.out; omega) HW.out).mono ?_
  rintro e w' ⟨z, rfl, hz, rfl⟩
  rcases hz with hz | ⟨hz, ht⟩
  · go_wp2
    go_ret
    exact ⟨rfl, HB.out⟩
  have hzn : ¬ z < 0 := by omega
  have HT : Hid (z0.length ≤ 1048576) := Lib.hid (by unfold Strs.total at ht; omega)
  clear ht
  obtain ⟨r, hr⟩ : ∃ r, r = Qua.cho z0 n1 := ⟨_, rfl⟩
  have HG := Lib.hid hr
  clear hr
  go_wp2_with (fail)
  go_at_call 12
  refine (Strs.copy _ _ z0 _ HY.out (by have := HT.out; omega)).mono ?_
  rintro e x1 ⟨vA, rfl, oA, b1⟩
  have hs1 := b1.size
  have HY := Lib.hid (Strs.holds_below HY.out (b1.mono (by omega)))
  have HB := Lib.hid (Base.then_below HB.out b1)
  clear b1
  have HA := Lib.hid (Strs.own_holds oA)
  clear oA
  go_wp2_with (fail)
  go_at_call 11
  refine (Qua.spec_cho vA _ z0 n1 _ HA.out (by omega) HT.out hbig1).mono ?_
  rintro e x2 ⟨he, b2⟩
  rw [← HG.out] at he
  subst he
  have hs2 := b2.size
  have HY := Lib.hid (Strs.holds_below HY.out (b2.mono (by omega)))
  have HB := Lib.hid (Base.then_below HB.out b2)
  clear b2
  go_wp2_with (fail)
  go_at_call 12
  refine (Strs.copy _ _ z0 _ HY.out (by have := HT.out; omega)).mono ?_
  rintro e x3 ⟨vX, rfl, oX, b3⟩
  have hs3 := b3.size
  have HY := Lib.hid (Strs.holds_below HY.out (b3.mono (by omega)))
  have HB := Lib.hid (Base.then_below HB.out b3)
  clear b3
  have HX := Lib.hid (Strs.own_holds oX)
  clear oX
  go_wp2_with (fail)
  go_at_call 13
  refine (Qua.impl_cho vX _ z0 n1 _ HX.out (by omega) HT.out hbig1 (Par.errs_below HER.out HB.out) (Sh.mxl_below HMX.out HB.out)).mono ?_
  rintro e x4 ⟨he, b4⟩
  rw [← HG.out] at he
  subst he
  have hs4 := b4.size
  have HY := Lib.hid (Strs.holds_below HY.out (b4.mono (by omega)))
  have HX := Lib.hid (Strs.holds_below HX.out (b4.mono (by omega)))
  have HB := Lib.hid (Base.then_below HB.out b4)
  clear b4
  go_wp2_with (fail)
  go_at_call 12
  refine (Strs.copy _ _ z0 _ HY.out (by have := HT.out; omega)).mono ?_
  rintro e x5 ⟨vC, rfl, oC, b5⟩
  have hs5 := b5.size
  have HY := Lib.hid (Strs.holds_below HY.out (b5.mono (by omega)))
  have HX := Lib.hid (Strs.holds_below HX.out (b5.mono (by omega)))
  have HB := Lib.hid (Base.then_below HB.out b5)
  clear b5
  have HC := Lib.hid (Strs.own_holds oC)
  clear oC
  go_wp2_with (fail)
  go_at_call 14
  refine (Strs.eq_same vX vC _ _ z0 _ HX.out HC.out (by have := HT.out; omega)).mono ?_
  rintro e x6 ⟨rfl, b6⟩
  have hs6 := b6.size
  have HY := Lib.hid (Strs.holds_below HY.out (b6.mono (by omega)))
  have HX := Lib.hid (Strs.holds_below HX.out (b6.mono (by omega)))
  have HC := Lib.hid (Strs.holds_below HC.out (b6.mono (by omega)))
  have HB := Lib.hid (Base.then_below HB.out b6)
  clear b6
  go_wp2
  go_ret
  exact ⟨rfl, HB.out⟩

set_option maxRecDepth 1000000 in
theorem lifted (os : Os) (started : os.Started) (H : Type) (enc : TypeId × Value → H) :
    ReturnsInHanded {} Tryd.checked os 4 .any (fun w args => (Rows.fnExactChooseNameSpec.pre enc Tryd.prog Tryd.f4 [] false w args ∧ laidMetH Tryd.prog Rows.fnExactChooseNameRow.laid w) ∧ sizedMet enc Tryd.prog Tryd.f4 (OpenSpec.ofChange Rows.fnExactChooseNameSpec) false w args)
      (Rows.fnExactChooseNameSpec.post enc Tryd.prog Tryd.f4 false true false false) := by
  refine Sh.and_shaped (C := Tryd.checked) (X := fun w _ => laidMetH Tryd.prog Rows.fnExactChooseNameRow.laid w) (fun _ _ _ hh h => h.of_heap hh) own started (by kernel_rfl) Tryd.func4
    (ChangeSpec.witness_shaped (enc := enc) (C := Tryd.checked) (os := os) (X := fun w _ => laidMetH Tryd.prog Rows.fnExactChooseNameRow.laid w) false (World.laidAll Tryd.prog os Rows.fnExactChooseNameRow.laid) #[.slice none 0 0, .string ⟨#[]⟩] 8 (World.laidAll_os _ _ _) (World.shaped_of_ZipB (by kernel_rfl) (by kernel_rfl)) (by kernel_rfl) (by kernel_rfl) (by kernel_rfl)
      (by rw [MakeChecks.laidMetH_plain _ _ _ (by kernel_rfl)]; exact laidMet_laidAll _ (by kernel_rfl) (by kernel_rfl))) ?_
  intro W base args ds gs before hval0 hW hsh hL
  have hval : ∀ (j : Nat) t v, Tryd.f4.params[j]? = some t → args[j]? = some v → Value.okWide Tryd.prog W .any base t v := hval0
  have hW' := hW
  obtain ⟨p, q, hA0, hV, rfl, hfz, hnd⟩ := hW
  have hA : DataW.TrodAll enc Tryd.prog W 0 (fun _ => true) true Tryd.f4.params.toList args.toList ds p := hA0
  rw [Tryd.params4] at hA hval
  obtain ⟨v0, vs0, d0, ds0, p0, q0, hargs, rfl, rfl, h0, r0⟩ := trodAll_cons hA
  obtain ⟨v1, vs1, d1, ds1, p1, q1, rfl, rfl, rfl, h1, r1⟩ := trodAll_cons r0
  obtain ⟨rfl, rfl, rfl⟩ := trodAll_nil r1
  obtain rfl : args = #[v0, v1] := by cases args; simp_all
  obtain ⟨rfl, rfl⟩ := trodVars_none hV
  have k0 := h0
  obtain ⟨b0, l0, c0, z0, rfl, w01, w02, y0, w03⟩ := Strs.open_arg (hval 0 27 v0 rfl rfl) h0
  have w0 := And.intro w01 (And.intro w02 w03)
  have k1 := h1
  obtain ⟨a1, rfl, rfl, rfl, w1⟩ := Go.ChangeMaps.open_string Tryd.underlying9 (hval 1 9 v1 rfl rfl) h1
  clear hA0 hval0
  simp only [List.append_nil] at hW'
  have hL' : laidMet Tryd.prog Rows.fnExactChooseNameRow.laid W := by rw [← MakeChecks.laidMetH_plain _ _ _ (by kernel_rfl)]; exact hL
  refine (walk b0 l0 c0 z0 a1 w0 w1 W y0 (Laid.errs hL' (by simp [Rows.fnExactChooseNameRow]) (by simp [Rows.fnExactChooseNameRow])) (Sh.mxl_of hsh)).mono fun e W' ⟨he, hb⟩ => ?_
  subst he
  exact ⟨_, rfl, ⟨_, _, _, [], _, [], hW', (trodAll_cons_mk (shut_bool Tryd.underlying4 _) trodAll_mk0), (trodAll_cons_mk (Below.trod laidOut (by kernel_rfl) (of_decide_eq_true (by kernel_rfl)) k0 hb (fun x hx => hW'.lt x (by simp [hx]))) (trodAll_cons_mk (Go.ChangeMaps.shut_string Tryd.underlying9 w1) trodAll_mk0)), rfl, hb.frame _, fun h => by cases h⟩⟩

theorem over : Rows.fnExactChooseNameRow.holds Tryd.pinned (OpenSpec.ofChange Rows.fnExactChooseNameSpec) :=
  OpenClaim.holds_of_wide 4 Tryd.f4 rfl rfl rfl rfl rfl rfl rfl ⟨rfl, rfl, rfl, rfl, rfl⟩ rfl rfl rfl rfl rfl (by kernel_rfl) Tryd.func4 (by kernel_rfl)
    (of_decide_eq_true (by kernel_rfl)) (by unfold Func.isWrapper; first | (rw [if_pos (by decide +kernel)]; kernel_rfl) | (rw [if_neg (by decide +kernel)]; exact ⟨rfl, rfl⟩))
    (fun os started H enc _ => lifted os started H enc)

/-- The given statement: the law's card, tied. -/
theorem proved : Rows.FnExactChooseNameCardSaid :=
  Claim7.holds_tied_plain_at .later [] _ true _ _
    over (fun _ h => by cases h) (by kernel_rfl) (fun _ h => by cases h) fnExactChooseName_row_tie rfl ⟨rfl, rfl⟩ (by kernel_rfl) rfl
    (fun f fn hf hfn => by
      obtain rfl : f = 4 := Option.some.inj ((show Tryd.prog.funcNamed "loop.example/g03012/laws.FnExactChooseName" = some 4 by kernel_rfl).symm.trans hf) |>.symm
      obtain rfl : fn = Tryd.f4 := (Option.some.inj (Tryd.func4.symm.trans hfn)).symm
      exact ⟨by kernel_rfl, fun j t ht => by
        rw [Tryd.params4] at ht
        have hm : t ∈ [27, 9] := by simpa using Array.mem_of_getElem? ht
        have hall : ([27, 9].all fun u => !Tryd.prog.wantsStandIn u) = true := by kernel_rfl
        exact (show Tryd.prog.wantsStandIn t = false by simpa using List.all_eq_true.1 hall t hm)⟩)
    (by kernel_rfl)
#print axioms proved
end Go.Proofs.YtindnhmigljkaaaDoor.fnExactChooseName
