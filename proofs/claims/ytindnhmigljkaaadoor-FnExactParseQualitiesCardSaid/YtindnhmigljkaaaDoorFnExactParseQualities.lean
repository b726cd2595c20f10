/-
  PROVED: at any text the program's ParseQualities returns what its model returns, in memory of its own: the exact law of ParseQualities returns true and leaves its argument as it was. CONDITION: the library's two errors of numbers that the row lists read as the library's text lays them, the other listed variables as pinned (the card ties them to the text of the pruned project).
-/
import Derived.Test.YtindnhmigljkaaaDoorBase
import Derived.Carry
import Derived.Test.YtindnhmigljkaaaDoorQuaCp
import Derived.Test.YtindnhmigljkaaaDoorQuaMk
import Derived.Test.YtindnhmigljkaaaDoorQuaP
import Derived.Test.YtindnhmigljkaaaDoorQuaS
import Derived.Test.YtindnhmigljkaaaDoorLaidErrs
import Derived.Test.YtindnhmigljkaaaDoorAndSh
import Derived.Test.YtindnhmigljkaaaDoorTie
import Derived.Test.YtindnhmigljkaaaDoorCards
import Derived.LaidMore
import Derived.Lay
import Derived.OpenVars
import Derived.Stop.LaidErr
namespace Go.Proofs.YtindnhmigljkaaaDoor.fnExactParseQualities
open Go.ChangeShapes Go.WideShapes Go.ChangeAt Go.RowKit
set_option linter.unusedVariables false
set_option maxRecDepth 1000000

theorem own : ownKnob Tryd.prog.godebug = none := by kernel_rfl

set_option maxHeartbeats 4000000 in
theorem walk (a0 : ByteArray) (w0 : a0.size ≤ maxLen) (w : World)  (her : Par.Errs w) (hmx : Sh.MxL w) :
    Calls Tryd.prog 3 #[.string a0] w fun e w' => e = .returned (.bool true) ∧ Below w.heap.size w w' := by
  obtain ⟨n0, rfl⟩ : ∃ n : List UInt8, a0 = ⟨n.toArray⟩ := ⟨a0.data.toList, rfl⟩
  have hsz0 : (⟨n0.toArray⟩ : ByteArray).size = n0.length := by simp [ByteArray.size]
  have hnl0 : n0.length ≤ 9223372036854775807 := by rw [hsz0] at w0; exact w0
  clear w0
  by_cases hbig0 : n0.length ≤ 1048576
  case neg =>
    go_enter Tryd.func3, Tryd.ntmps3
    go_wp2
    go_ret
    exact ⟨rfl, by first | exact Below.refl _ _ | exact (Below.refl _ _).alloc (Nat.le_refl _) _⟩
  have HER := Lib.hid her
  have HMX := Lib.hid hmx
  clear her hmx
  have HB := Lib.hid (Below.refl w.heap.size w)
  go_enter Tryd.func3, Tryd.ntmps3
  have HK : Hid (((Qua.pqs n0)).length ≤ 4194304) := Lib.hid (by have h1 := Qua.quals_len (Tx.split n0); have h2 := Tx.split_count n0; unfold Qua.pqs; omega)
  go_wp2_with (fail)
  go_at_call 5
  refine (Qua.spec_pqs n0 _ hbig0).mono ?_
  rintro e x1 ⟨vW, rfl, oW, b1⟩
  have hs1 := b1.size
  have HB := Lib.hid (Base.then_below HB.out b1)
  clear b1
  have HWW := Lib.hid (Qua.own_holds oW)
  clear oW
  go_wp2_with (fail)
  go_at_call 6
  refine (Qua.impl_pqs n0 _ hbig0 (Par.errs_below HER.out HB.out) (Sh.mxl_below HMX.out HB.out)).mono ?_
  rintro e x2 ⟨vG, rfl, oG, b2⟩
  have hs2 := b2.size
  have HWW := Lib.hid (Qua.holds_below HWW.out (b2.mono (by omega)))
  have HB := Lib.hid (Base.then_below HB.out b2)
  clear b2
  have HG := Lib.hid oG
  clear oG
  go_wp2_with (fail)
  go_at_call 7
  refine (Qua.eq_wide vG vW _ _ ((Qua.pqs n0)) _ (Qua.own_holds HG.out) HWW.out HK.out).mono ?_
  rintro e x3 ⟨rfl, b3⟩
  have hs3 := b3.size
  have HWW := Lib.hid (Qua.holds_below HWW.out (b3.mono (by omega)))
  have HG := Lib.hid (Qua.row_below HG.out b3)
  have HB := Lib.hid (Base.then_below HB.out b3)
  clear b3
  go_wp2_with (fail)
  go_at_call 8
  refine (Qua.mark _ vG ((Qua.pqs n0)) 1 _ HG.out (by omega) (by omega) (by have := HK.out; omega)).mono ?_
  rintro e x4 ⟨rfl, oG, g4⟩
  have hs4 := g4.size
  have HR : Hid (∀ k, vG.ownBlock = some k → x1.heap.size ≤ k) := Lib.hid (fun k e => (HG.out.lt k e).1)
  have HWW := Lib.hid (Qua.holds_grown HWW.out g4 (fun k e => by have := HR.out k e; omega))
  have HB := Lib.hid (HB.out.grown g4 HB.out.size (fun k e => by have := HR.out k e; omega))
  have HG := Lib.hid oG
  clear oG g4 HR
  have hk2 : ¬ ((1 + ((Qua.pqs n0)).length * 2 : Nat) : Int) < 0 := by omega
  go_wp2_with (fail)
  go_at_call 9
  refine (Qua.held _ vG 1 ((Qua.pqs n0)).length _ (Qua.own_holds HG.out) (by omega) (by have := HK.out; omega)).mono ?_
  rintro e x5 ⟨rfl, b5⟩
  have hs5 := b5.size
  have HWW := Lib.hid (Qua.holds_below HWW.out (b5.mono (by omega)))
  have HG := Lib.hid (Qua.row_below HG.out b5)
  have HB := Lib.hid (Base.then_below HB.out b5)
  clear b5
  go_wp2_with (fail)
  go_at_call 6
  refine (Qua.impl_pqs n0 _ hbig0 (Par.errs_below HER.out HB.out) (Sh.mxl_below HMX.out HB.out)).mono ?_
  rintro e x6 ⟨vH, rfl, oH, b6⟩
  have hs6 := b6.size
  have HWW := Lib.hid (Qua.holds_below HWW.out (b6.mono (by omega)))
  have HG := Lib.hid (Qua.row_below HG.out b6)
  have HB := Lib.hid (Base.then_below HB.out b6)
  clear b6
  have HH := Lib.hid (Qua.own_holds oH)
  clear oH
  go_wp2_with (fail)
  go_at_call 7
  refine (Qua.eq_wide vH vW _ _ ((Qua.pqs n0)) _ HH.out HWW.out HK.out).mono ?_
  rintro e x7 ⟨rfl, b7⟩
  have hs7 := b7.size
  have HG := Lib.hid (Qua.row_below HG.out b7)
  have HB := Lib.hid (Base.then_below HB.out b7)
  clear b7
  go_wp2_with (fail)
  go_at_call 9
  refine (Qua.held _ vG 1 ((Qua.pqs n0)).length _ (Qua.own_holds HG.out) (by omega) (by have := HK.out; omega)).mono ?_
  rintro e x8 ⟨rfl, b8⟩
  have hs8 := b8.size
  have HG := Lib.hid (Qua.row_below HG.out b8)
  have HB := Lib.hid (Base.then_below HB.out b8)
  clear b8
  go_wp2
  go_ret
  exact ⟨rfl, HB.out⟩

set_option maxRecDepth 1000000 in
theorem lifted (os : Os) (started : os.Started) (H : Type) (enc : TypeId × Value → H) :
    ReturnsInHanded {} Tryd.checked os 3 .any (fun w args => (Rows.fnExactParseQualitiesSpec.pre enc Tryd.prog Tryd.f3 [] false w args ∧ laidMetH Tryd.prog Rows.fnExactParseQualitiesRow.laid w) ∧ sizedMet enc Tryd.prog Tryd.f3 (OpenSpec.ofChange Rows.fnExactParseQualitiesSpec) false w args)
      (Rows.fnExactParseQualitiesSpec.post enc Tryd.prog Tryd.f3 false true false false) := by
  refine Sh.and_shaped (C := Tryd.checked) (X := fun w _ => laidMetH Tryd.prog Rows.fnExactParseQualitiesRow.laid w) (fun _ _ _ hh h => h.of_heap hh) own started (by kernel_rfl) Tryd.func3
    (ChangeSpec.witness_shaped (enc := enc) (C := Tryd.checked) (os := os) (X := fun w _ => laidMetH Tryd.prog Rows.fnExactParseQualitiesRow.laid w) false (World.laidAll Tryd.prog os Rows.fnExactParseQualitiesRow.laid) #[.string ⟨#[]⟩] 8 (World.laidAll_os _ _ _) (World.shaped_of_ZipB (by kernel_rfl) (by kernel_rfl)) (by kernel_rfl) (by kernel_rfl) (by kernel_rfl)
      (by rw [MakeChecks.laidMetH_plain _ _ _ (by kernel_rfl)]; exact laidMet_laidAll _ (by kernel_rfl) (by kernel_rfl))) ?_
  intro W base args ds gs before hval0 hW hsh hL
  have hval : ∀ (j : Nat) t v, Tryd.f3.params[j]? = some t → args[j]? = some v → Value.okWide Tryd.prog W .any base t v := hval0
  have hW' := hW
  obtain ⟨p, q, hA0, hV, rfl, hfz, hnd⟩ := hW
  have hA : DataW.TrodAll enc Tryd.prog W 0 (fun _ => true) true Tryd.f3.params.toList args.toList ds p := hA0
  rw [Tryd.params3] at hA hval
  obtain ⟨v0, vs0, d0, ds0, p0, q0, hargs, rfl, rfl, h0, r0⟩ := trodAll_cons hA
  obtain ⟨rfl, rfl, rfl⟩ := trodAll_nil r0
  obtain rfl : args = #[v0] := by cases args; simp_all
  obtain ⟨rfl, rfl⟩ := trodVars_none hV
  have k0 := h0
  obtain ⟨a0, rfl, rfl, rfl, w0⟩ := Go.ChangeMaps.open_string Tryd.underlying9 (hval 0 9 v0 rfl rfl) h0
  clear hA0 hval0
  simp only [List.append_nil] at hW'
  have hL' : laidMet Tryd.prog Rows.fnExactParseQualitiesRow.laid W := by rw [← MakeChecks.laidMetH_plain _ _ _ (by kernel_rfl)]; exact hL
  refine (walk a0 w0 W (Laid.errs hL' (by simp [Rows.fnExactParseQualitiesRow]) (by simp [Rows.fnExactParseQualitiesRow])) (Sh.mxl_of hsh)).mono fun e W' ⟨he, hb⟩ => ?_
  subst he
  exact ⟨_, rfl, Base.post_below (pa := []) (pv := []) hW' (fun _ _ _ => (trodAll_cons_mk (shut_bool Tryd.underlying4 _) trodAll_mk0)) (fun sp _ => (trodAll_cons_mk (Go.ChangeMaps.shut_string Tryd.underlying9 w0) trodAll_mk0)) (fun _ _ => rfl) rfl
    hb (ok_one (by kernel_rfl) rfl (okWide_bool_mk Tryd.underlying4 _))⟩

theorem over : Rows.fnExactParseQualitiesRow.holds Tryd.pinned (OpenSpec.ofChange Rows.fnExactParseQualitiesSpec) :=
  OpenClaim.holds_of_wide 3 Tryd.f3 rfl rfl rfl rfl rfl rfl rfl ⟨rfl, rfl, rfl, rfl, rfl⟩ rfl rfl rfl rfl rfl (by kernel_rfl) Tryd.func3 (by kernel_rfl)
    (of_decide_eq_true (by kernel_rfl)) (by unfold Func.isWrapper; first | (rw [if_pos (by decide +kernel)]; kernel_rfl) | (rw [if_neg (by decide +kernel)]; exact ⟨rfl, rfl⟩))
    (fun os started H enc _ => lifted os started H enc)

/-- The given statement: the law's card, tied. -/
theorem proved : Rows.FnExactParseQualitiesCardSaid :=
  Claim7.holds_tied_plain_at .later [] _ true _ _
    over (fun _ h => by cases h) (by kernel_rfl) (fun _ h => by cases h) fnExactParseQualities_row_tie rfl ⟨rfl, rfl⟩ (by kernel_rfl) rfl
    (fun f fn hf hfn => by
      obtain rfl : f = 3 := Option.some.inj ((show Tryd.prog.funcNamed "loop.example/g03012/laws.FnExactParseQualities" = some 3 by kernel_rfl).symm.trans hf) |>.symm
      obtain rfl : fn = Tryd.f3 := (Option.some.inj (Tryd.func3.symm.trans hfn)).symm
      exact ⟨by kernel_rfl, fun j t ht => by
        rw [Tryd.params3] at ht
        have hm : t ∈ [9] := by simpa using Array.mem_of_getElem? ht
        have hall : ([9].all fun u => !Tryd.prog.wantsStandIn u) = true := by kernel_rfl
        exact (show Tryd.prog.wantsStandIn t = false by simpa using List.all_eq_true.1 hall t hm)⟩)
    (by kernel_rfl)
#print axioms proved
end Go.Proofs.YtindnhmigljkaaaDoor.fnExactParseQualities
