/-
  PROVED: at any list of fields the program's VaryOf returns what its model returns, in memory of its own, and writes into no argument: the exact law of VaryOf returns true and leaves its argument as it was. CONDITION: the listed package-level variables are as the library's text lays them; the proof does not use what they hold.
-/
import Derived.Test.YtbkjioggohjnfaaDoorBase
import Derived.Carry
import Derived.Test.YtbkjioggohjnfaaDoorFldArg
import Derived.Test.YtbkjioggohjnfaaDoorFldCopy
import Derived.Test.YtbkjioggohjnfaaDoorFldEq
import Derived.Test.YtbkjioggohjnfaaDoorFldMark
import Derived.Test.YtbkjioggohjnfaaDoorVyo
import Derived.Test.YtbkjioggohjnfaaDoorStrEq
import Derived.Test.YtbkjioggohjnfaaDoorMarkRq
import Derived.Test.YtbkjioggohjnfaaDoorTie
import Derived.Test.YtbkjioggohjnfaaDoorCards
import Derived.LaidMore
import Derived.Lay
import Derived.OpenVars
import Derived.Stop.LaidErr
namespace Go.Proofs.YtbkjioggohjnfaaDoor.fnExactVaryOf
open Go.ChangeShapes Go.WideShapes Go.ChangeAt Go.RowKit
set_option linter.unusedVariables false
set_option maxRecDepth 1000000

theorem own : ownKnob Tryd.prog.godebug = none := by kernel_rfl

theorem laidOut : laidOutB Tryd.prog = true := by kernel_rfl

theorem vy_len {l : List Flds.Fld} (hl : Flds.total l ≤ 1048576) : (Vyo.vy l).1.length ≤ 8000000 := by
  have hg := Flds.got_len Vyo.varyN l
  have hc := Tx.split_count (Flds.got Vyo.varyN l)
  unfold Vyo.vy Vyo.vyp
  split
  · exact Nat.zero_le _
  · have h1 := Onc.once_len ((Tx.split (Flds.got Vyo.varyN l)).map Tx.lower)
    rw [List.length_map] at h1
    dsimp only
    omega
set_option maxHeartbeats 8000000 in
theorem walk (v0 : Value) (z0 : List Flds.Fld) (w0 : z0.length ≤ maxLen ∧ (∀ f ∈ z0, f.1.length ≤ maxLen ∧ f.2.length ≤ maxLen)) (w : World) (y0 : Flds.Holds w w.heap.size v0 z0) :
    Calls Tryd.prog 3 #[v0] w fun e w' => e = .returned (.bool true) ∧ Below w.heap.size w w' := by
  have HW0 := Lib.hid w0
  have HY0 := Lib.hid y0
  clear w0 y0
  have HB := Lib.hid (Below.refl w.heap.size w)
  have hszw := HB.out.size
  go_enter Tryd.func3, Tryd.ntmps3
  go_wp2_with (fail)
  go_at_call 4
  refine (Flds.size_any _ _ z0 _ _ HY0.out HW0.out.1 HW0.out.2 (by decide) (by decide)).mono ?_
  rintro e x1 ⟨z, rfl, hz, b1⟩
  have hs1 := b1.size
  have HY0 := Lib.hid (Flds.holds_below HY0.out (b1.mono (by omega)))
  have HB := Lib.hid (Base.then_below HB.out b1)
  clear b1
  rcases hz with hz | ⟨hz, ht⟩
  · go_wp2
    go_ret
    exact ⟨rfl, HB.out⟩
  have hzn : ¬ z < 0 := by omega
  have HT0 : Hid (Flds.total z0 ≤ 1048576) := Lib.hid (by omega)
  have HL0 : Hid (z0.length ≤ 1048576) := Lib.hid (by have := HT0.out; unfold Flds.total at this; omega)
  clear ht
  obtain ⟨zv, hzv⟩ : ∃ z, z = Vyo.vy z0 := ⟨_, rfl⟩
  have hk := vy_len HT0.out
  rw [← hzv] at hk
  obtain ⟨g0, rb⟩ := zv
  have HGG := Lib.hid hzv
  have HK : Hid (g0.length ≤ 8000000) := Lib.hid hk
  clear hzv hk
  go_wp2_with (fail)
  go_at_call 6
  refine (Flds.copy _ _ _ _ HY0.out HL0.out).mono ?_
  rintro e x2 ⟨vA, rfl, oA, b2⟩
  have hs2 := b2.size
  have HY0 := Lib.hid (Flds.holds_below HY0.out (b2.mono (by omega)))
  have HB := Lib.hid (Base.then_below HB.out b2)
  clear b2
  have HA := Lib.hid (Flds.own_holds oA)
  clear oA
  go_wp2_with (fail)
  go_at_call 5
  refine (Vyo.spec_vy vA _ z0 _ HA.out (by omega) HT0.out).mono ?_
  rintro e x3 ⟨vW, he, oW, b3⟩
  rw [← HGG.out] at he oW
  dsimp only at he oW
  subst he
  have hs3 := b3.size
  have HY0 := Lib.hid (Flds.holds_below HY0.out (b3.mono (by omega)))
  have HB := Lib.hid (Base.then_below HB.out b3)
  clear b3
  have HWW := Lib.hid (Strs.own_holds oW)
  clear oW
  go_wp2_with (fail)
  go_at_call 6
  refine (Flds.copy _ _ _ _ HY0.out HL0.out).mono ?_
  rintro e x4 ⟨vX, rfl, oX, b4⟩
  have hs4 := b4.size
  have HY0 := Lib.hid (Flds.holds_below HY0.out (b4.mono (by omega)))
  have HWW := Lib.hid (Strs.holds_below HWW.out (b4.mono (by omega)))
  have HB := Lib.hid (Base.then_below HB.out b4)
  clear b4
  have HX := Lib.hid (oX)
  clear oX
  go_wp2_with (fail)
  go_at_call 7
  refine (Vyo.impl_vy vX _ z0 _ (Flds.own_holds HX.out) (by omega) HT0.out).mono ?_
  rintro e x5 ⟨vG, he, oG, b5⟩
  rw [← HGG.out] at he oG
  dsimp only at he oG
  subst he
  have hs5 := b5.size
  have NG_X : Hid (∀ g, vG.ownBlock = some g → some g ≠ vX.ownBlock) := Lib.hid (fun g hg hx => by have q1 := (World.ownsRow.lt oG g hg).1; have q2 := (World.ownsRow.lt HX.out g hx.symm).2; omega)
  have NX_G : Hid (∀ g, vX.ownBlock = some g → some g ≠ vG.ownBlock) := Lib.hid (fun g hg hx => by have q1 := (World.ownsRow.lt oG g hx.symm).1; have q2 := (World.ownsRow.lt HX.out g hg).2; omega)
  have HY0 := Lib.hid (Flds.holds_below HY0.out (b5.mono (by omega)))
  have HWW := Lib.hid (Strs.holds_below HWW.out (b5.mono (by omega)))
  have HX := Lib.hid (Flds.row_below HX.out b5)
  have HB := Lib.hid (Base.then_below HB.out b5)
  clear b5
  have HG := Lib.hid oG
  clear oG
  go_wp2_with (fail)
  go_at_call 8
  refine (Strs.eq_same vG vW _ _ g0 _ (Strs.own_holds HG.out) HWW.out (by have := HK.out; omega)).mono ?_
  rintro e x6 ⟨rfl, b6⟩
  have hs6 := b6.size
  have HY0 := Lib.hid (Flds.holds_below HY0.out (b6.mono (by omega)))
  have HWW := Lib.hid (Strs.holds_below HWW.out (b6.mono (by omega)))
  have HX := Lib.hid (Flds.row_below HX.out b6)
  have HG := Lib.hid (Flds.row_below HG.out b6)
  have HB := Lib.hid (Base.then_below HB.out b6)
  clear b6
  go_wp2_with (fail)
  go_at_call 6
  refine (Flds.copy _ _ _ _ HY0.out HL0.out).mono ?_
  rintro e x7 ⟨vC, rfl, oC, b7⟩
  have hs7 := b7.size
  have HY0 := Lib.hid (Flds.holds_below HY0.out (b7.mono (by omega)))
  have HWW := Lib.hid (Strs.holds_below HWW.out (b7.mono (by omega)))
  have HX := Lib.hid (Flds.row_below HX.out b7)
  have HG := Lib.hid (Flds.row_below HG.out b7)
  have HB := Lib.hid (Base.then_below HB.out b7)
  clear b7
  have HC := Lib.hid (Flds.own_holds oC)
  clear oC
  go_wp2_with (fail)
  go_at_call 9
  refine (Flds.eq_same vX vC _ _ z0 _ (Flds.own_holds HX.out) HC.out HL0.out).mono ?_
  rintro e x8 ⟨rfl, b8⟩
  have hs8 := b8.size
  have HY0 := Lib.hid (Flds.holds_below HY0.out (b8.mono (by omega)))
  have HWW := Lib.hid (Strs.holds_below HWW.out (b8.mono (by omega)))
  have HX := Lib.hid (Flds.row_below HX.out b8)
  have HG := Lib.hid (Flds.row_below HG.out b8)
  have HB := Lib.hid (Base.then_below HB.out b8)
  clear b8
  go_wp2_with (fail)
  go_at_call 10
  refine (Flds.mark_flds _ vX z0 1 _ HX.out (by omega) (by omega) (by have := HL0.out; omega)).mono ?_
  rintro e x9 ⟨rfl, oM, gM⟩
  have hs9 := gM.size
  have HR : Hid (∀ k, Value.ownBlock vX = some k → x3.heap.size ≤ k) := Lib.hid (fun k e => (World.ownsRow.lt HX.out k e).1)
  have HY0 := Lib.hid (Flds.holds_grown HY0.out gM (fun k e => by have := HR.out k e; omega))
  have HWW := Lib.hid (Strs.holds_grown HWW.out gM (fun k e => by have := HR.out k e; omega))
  have HG := Lib.hid (Flds.row_grown HG.out gM NG_X.out)
  have HB := Lib.hid (HB.out.grown gM HB.out.size (fun k e => by have := HR.out k e; omega))
  have HX := Lib.hid oM
  clear oM gM HR
  have hk1 : ¬ ((1 + z0.length * 2 : Nat) : Int) < 0 := by omega
  go_wp2_with (fail)
  go_at_call 8
  refine (Strs.eq_same vG vW _ _ g0 _ (Strs.own_holds HG.out) HWW.out (by have := HK.out; omega)).mono ?_
  rintro e x10 ⟨rfl, b10⟩
  have hs10 := b10.size
  have HY0 := Lib.hid (Flds.holds_below HY0.out (b10.mono (by omega)))
  have HWW := Lib.hid (Strs.holds_below HWW.out (b10.mono (by omega)))
  have HG := Lib.hid (Flds.row_below HG.out b10)
  have HB := Lib.hid (Base.then_below HB.out b10)
  clear b10
  go_wp2_with (fail)
  go_at_call 11
  refine (Mark.mark_strs_g _ vG g0 1 _ HG.out (by omega) (by omega) (by have := HK.out; omega)).mono ?_
  rintro e x11 ⟨rfl, oM, gM⟩
  have hs11 := gM.size
  have HR : Hid (∀ k, Value.ownBlock vG = some k → x4.heap.size ≤ k) := Lib.hid (fun k e => (World.ownsRow.lt HG.out k e).1)
  have HY0 := Lib.hid (Flds.holds_grown HY0.out gM (fun k e => by have := HR.out k e; omega))
  have HWW := Lib.hid (Strs.holds_grown HWW.out gM (fun k e => by have := HR.out k e; omega))
  have HB := Lib.hid (HB.out.grown gM HB.out.size (fun k e => by have := HR.out k e; omega))
  have HG := Lib.hid oM
  clear oM gM HR
  have hk2 : ¬ ((1 + g0.length : Nat) : Int) < 0 := by omega
  go_wp2_with (fail)
  go_at_call 12
  refine (Mark.held_strs _ vG 1 g0.length _ (Strs.own_holds HG.out) (by omega) (by have := HK.out; omega)).mono ?_
  rintro e x12 ⟨rfl, b12⟩
  have hs12 := b12.size
  have HY0 := Lib.hid (Flds.holds_below HY0.out (b12.mono (by omega)))
  have HWW := Lib.hid (Strs.holds_below HWW.out (b12.mono (by omega)))
  have HG := Lib.hid (Flds.row_below HG.out b12)
  have HB := Lib.hid (Base.then_below HB.out b12)
  clear b12
  go_wp2_with (fail)
  go_at_call 6
  refine (Flds.copy _ _ _ _ HY0.out HL0.out).mono ?_
  rintro e x13 ⟨vD, rfl, oD, b13⟩
  have hs13 := b13.size
  have HY0 := Lib.hid (Flds.holds_below HY0.out (b13.mono (by omega)))
  have HWW := Lib.hid (Strs.holds_below HWW.out (b13.mono (by omega)))
  have HG := Lib.hid (Flds.row_below HG.out b13)
  have HB := Lib.hid (Base.then_below HB.out b13)
  clear b13
  have HD := Lib.hid (Flds.own_holds oD)
  clear oD
  go_wp2_with (fail)
  go_at_call 7
  refine (Vyo.impl_vy vD _ z0 _ HD.out (by omega) HT0.out).mono ?_
  rintro e x14 ⟨vH, he, oH, b14⟩
  rw [← HGG.out] at he oH
  dsimp only at he oH
  subst he
  have hs14 := b14.size
  have HWW := Lib.hid (Strs.holds_below HWW.out (b14.mono (by omega)))
  have HG := Lib.hid (Flds.row_below HG.out b14)
  have HB := Lib.hid (Base.then_below HB.out b14)
  clear b14
  have HH := Lib.hid (Strs.own_holds oH)
  clear oH
  go_wp2_with (fail)
  go_at_call 8
  refine (Strs.eq_same vH vW _ _ g0 _ HH.out HWW.out (by have := HK.out; omega)).mono ?_
  rintro e x15 ⟨rfl, b15⟩
  have hs15 := b15.size
  have HG := Lib.hid (Flds.row_below HG.out b15)
  have HB := Lib.hid (Base.then_below HB.out b15)
  clear b15
  go_wp2_with (fail)
  go_at_call 12
  refine (Mark.held_strs _ vG 1 g0.length _ (Strs.own_holds HG.out) (by omega) (by have := HK.out; omega)).mono ?_
  rintro e x16 ⟨rfl, b16⟩
  have hs16 := b16.size
  have HG := Lib.hid (Flds.row_below HG.out b16)
  have HB := Lib.hid (Base.then_below HB.out b16)
  clear b16
  go_wp2
  go_ret
  exact ⟨rfl, HB.out⟩

set_option maxRecDepth 1000000 in
theorem lifted (os : Os) (started : os.Started) (H : Type) (enc : TypeId × Value → H) :
    ReturnsInHanded {} Tryd.checked os 3 .any (fun w args => (Rows.fnExactVaryOfSpec.pre enc Tryd.prog Tryd.f3 [] false w args ∧ laidMetH Tryd.prog Rows.fnExactVaryOfRow.laid w) ∧ sizedMet enc Tryd.prog Tryd.f3 (OpenSpec.ofChange Rows.fnExactVaryOfSpec) false w args)
      (Rows.fnExactVaryOfSpec.post enc Tryd.prog Tryd.f3 false true false false) := by
  refine returnsInHanded_of_change_and (C := Tryd.checked) (X := fun w _ => laidMetH Tryd.prog Rows.fnExactVaryOfRow.laid w) (fun _ _ _ hh h => h.of_heap hh) own started (by kernel_rfl) Tryd.func3
    (ChangeSpec.witness_shaped (enc := enc) (C := Tryd.checked) (os := os) (X := fun w _ => laidMetH Tryd.prog Rows.fnExactVaryOfRow.laid w) false (World.laidAll Tryd.prog os Rows.fnExactVaryOfRow.laid) #[.slice none 0 0] 8 (World.laidAll_os _ _ _) (World.shaped_of_ZipB (by kernel_rfl) (by kernel_rfl)) (by kernel_rfl) (by kernel_rfl) (by kernel_rfl)
      (by rw [MakeChecks.laidMetH_plain _ _ _ (by kernel_rfl)]; exact laidMet_laidAll _ (by kernel_rfl) (by kernel_rfl))) ?_
  intro W base args ds gs before hval0 hW _ _ hL _
  have hval : ∀ (j : Nat) t v, Tryd.f3.params[j]? = some t → args[j]? = some v → Value.okWide Tryd.prog W .any base t v := hval0
  have hW' := hW
  obtain ⟨p, q, hA0, hV, rfl, hfz, hnd⟩ := hW
  have hA : DataW.TrodAll enc Tryd.prog W 0 (fun _ => true) true Tryd.f3.params.toList args.toList ds p := hA0
  rw [Tryd.params3] at hA hval
  obtain ⟨v0, vs0, d0, ds0, p0, q0, hargs, rfl, rfl, h0, r0⟩ := trodAll_cons hA
  obtain ⟨rfl, rfl, rfl⟩ := trodAll_nil r0
  obtain rfl : args = #[v0] := by cases args; simp_all
  obtain ⟨rfl, rfl⟩ := trodVars_none hV
  have k0 := h0
  obtain ⟨z0, y0, w01, w02⟩ := Flds.open_arg (hval 0 22 v0 rfl rfl) h0
  have w0 := And.intro w01 w02
  clear hA0 hval0
  simp only [List.append_nil] at hW'
  have hL' : laidMet Tryd.prog Rows.fnExactVaryOfRow.laid W := by rw [← MakeChecks.laidMetH_plain _ _ _ (by kernel_rfl)]; exact hL
  refine (walk v0 z0 w0 W y0).mono fun e W' ⟨he, hb⟩ => ?_
  subst he
  exact ⟨_, rfl, ⟨_, _, _, [], _, [], hW', (trodAll_cons_mk (shut_bool Tryd.underlying4 _) trodAll_mk0), (trodAll_cons_mk (Below.trod laidOut (by kernel_rfl) (of_decide_eq_true (by kernel_rfl)) k0 hb (fun x hx => hW'.lt x (by simp [hx]))) trodAll_mk0), rfl, hb.frame _, fun h => by cases h⟩⟩

theorem over : Rows.fnExactVaryOfRow.holds Tryd.pinned (OpenSpec.ofChange Rows.fnExactVaryOfSpec) :=
  OpenClaim.holds_of_wide 3 Tryd.f3 rfl rfl rfl rfl rfl rfl rfl ⟨rfl, rfl, rfl, rfl, rfl⟩ rfl rfl rfl rfl rfl (by kernel_rfl) Tryd.func3 (by kernel_rfl)
    (of_decide_eq_true (by kernel_rfl)) (by unfold Func.isWrapper; first | (rw [if_pos (by decide +kernel)]; kernel_rfl) | (rw [if_neg (by decide +kernel)]; exact ⟨rfl, rfl⟩))
    (fun os started H enc _ => lifted os started H enc)

/-- The given statement: the law's card, tied. -/
theorem proved : Rows.FnExactVaryOfCardSaid :=
  Claim7.holds_tied_plain_at .later [] _ true _ _
    over (fun _ h => by cases h) (by kernel_rfl) (fun _ h => by cases h) fnExactVaryOf_row_tie rfl ⟨rfl, rfl⟩ (by kernel_rfl) rfl
    (fun f fn hf hfn => by
      obtain rfl : f = 3 := Option.some.inj ((show Tryd.prog.funcNamed "loop.example/g03012/laws.FnExactVaryOf" = some 3 by kernel_rfl).symm.trans hf) |>.symm
      obtain rfl : fn = Tryd.f3 := (Option.some.inj (Tryd.func3.symm.trans hfn)).symm
      exact ⟨by kernel_rfl, fun j t ht => by
        rw [Tryd.params3] at ht
        have hm : t ∈ [22] := by simpa using Array.mem_of_getElem? ht
        have hall : ([22].all fun u => !Tryd.prog.wantsStandIn u) = true := by kernel_rfl
        exact (show Tryd.prog.wantsStandIn t = false by simpa using List.all_eq_true.1 hall t hm)⟩)
    (by kernel_rfl)
#print axioms proved
end Go.Proofs.YtbkjioggohjnfaaDoor.fnExactVaryOf
