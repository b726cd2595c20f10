/-
  PROVED: at any text the program's IsNormalTarget returns what its model returns: the exact law of IsNormalTarget returns true and leaves its argument as it was. CONDITION: the library's errors read as their text lays them, the other listed variables as pinned (the card ties them to the text of the pruned project).
-/
import Derived.Test.YtkedndamkjnmkaaGreatDoorBase
import Derived.Carry
import Derived.Test.YtkedndamkjnmkaaGreatDoorNtV
import Derived.Test.YtkedndamkjnmkaaGreatDoorLaidErrs
import Derived.Test.YtkedndamkjnmkaaGreatDoorAndSh
import Derived.Test.YtkedndamkjnmkaaGreatDoorTie
import Derived.Test.YtkedndamkjnmkaaGreatDoorCards
import Derived.LaidMore
import Derived.Lay
import Derived.OpenVars
import Derived.Stop.LaidErr
namespace Go.Proofs.YtkedndamkjnmkaaGreatDoor.fnExactIsNormalTarget
open Go.ChangeShapes Go.WideShapes Go.ChangeAt Go.RowKit
set_option linter.unusedVariables false
set_option maxRecDepth 1000000

theorem own : ownKnob Tryz.prog.godebug = none := by kernel_rfl

set_option maxHeartbeats 4000000 in
theorem walk (a0 : ByteArray) (w0 : a0.size ≤ maxLen) (w : World)  (her : Par.Errs w) (hmx : Sh.MxL w) :
    Calls Tryz.prog 3 #[.string a0] w fun e w' => e = .returned (.bool true) ∧ Below w.heap.size w w' := by
  obtain ⟨n0, rfl⟩ : ∃ n : List UInt8, a0 = ⟨n.toArray⟩ := ⟨a0.data.toList, rfl⟩
  have hsz0 : (⟨n0.toArray⟩ : ByteArray).size = n0.length := by simp [ByteArray.size]
  have hnl0 : n0.length ≤ 9223372036854775807 := by rw [hsz0] at w0; exact w0
  clear w0
  by_cases hbig0 : n0.length ≤ 1048576
  case neg =>
    go_enter Tryz.func3, Tryz.ntmps3
    go_wp2
    go_ret
    exact ⟨rfl, by first | exact Below.refl _ _ | exact (Below.refl _ _).alloc (Nat.le_refl _) _⟩
  have HER := Lib.hid her
  have HMX := Lib.hid hmx
  clear her hmx
  have HB := Lib.hid (Below.refl w.heap.size w)
  go_enter Tryz.func3, Tryz.ntmps3
  obtain ⟨r, hr⟩ : ∃ z, z = Nt.isnt n0 := ⟨_, rfl⟩
  have HGr := Lib.hid hr
  clear hr
  go_wp2_with (fail)
  go_at_call 7
  refine (Nt.spec_isnt n0 _ (by omega)).mono ?_
  rintro e x1 ⟨he, b1⟩
  rw [← HGr.out] at he
  subst he
  have hs1 := b1.size
  have HB := Lib.hid (Base.then_below HB.out b1)
  clear b1
  go_wp2_with (fail)
  go_at_call 8
  refine (Nt.impl_isnt n0 _ (by omega) (Par.errs_below HER.out HB.out) (Sh.mxl_below HMX.out HB.out)).mono ?_
  rintro e x2 ⟨he, b2⟩
  rw [← HGr.out] at he
  subst he
  have hs2 := b2.size
  have HB := Lib.hid (Base.then_below HB.out b2)
  clear b2
  go_wp2
  go_ret
  exact ⟨rfl, HB.out⟩

set_option maxRecDepth 1000000 in
theorem lifted (os : Os) (started : os.Started) (H : Type) (enc : TypeId × Value → H) :
    ReturnsInHanded {} Tryz.checked os 3 .any (fun w args => (Rows.fnExactIsNormalTargetSpec.pre enc Tryz.prog Tryz.f3 [] false w args ∧ laidMetH Tryz.prog Rows.fnExactIsNormalTargetRow.laid w) ∧ sizedMet enc Tryz.prog Tryz.f3 (OpenSpec.ofChange Rows.fnExactIsNormalTargetSpec) false w args)
      (Rows.fnExactIsNormalTargetSpec.post enc Tryz.prog Tryz.f3 false true false false) := by
  refine Sh.and_shaped (C := Tryz.checked) (X := fun w _ => laidMetH Tryz.prog Rows.fnExactIsNormalTargetRow.laid w) (fun _ _ _ hh h => h.of_heap hh) own started (by kernel_rfl) Tryz.func3
    (ChangeSpec.witness_shaped (enc := enc) (C := Tryz.checked) (os := os) (X := fun w _ => laidMetH Tryz.prog Rows.fnExactIsNormalTargetRow.laid w) false (World.laidAll Tryz.prog os Rows.fnExactIsNormalTargetRow.laid) #[.string ⟨#[]⟩] 8 (World.laidAll_os _ _ _) (World.shaped_of_ZipB (by kernel_rfl) (by kernel_rfl)) (by kernel_rfl) (by kernel_rfl) (by kernel_rfl)
      (by rw [MakeChecks.laidMetH_plain _ _ _ (by kernel_rfl)]; exact laidMet_laidAll _ (by kernel_rfl) (by kernel_rfl))) ?_
  intro W base args ds gs before hval0 hW hsh hL
  have hval : ∀ (j : Nat) t v, Tryz.f3.params[j]? = some t → args[j]? = some v → Value.okWide Tryz.prog W .any base t v := hval0
  have hW' := hW
  obtain ⟨p, q, hA0, hV, rfl, hfz, hnd⟩ := hW
  have hA : DataW.TrodAll enc Tryz.prog W 0 (fun _ => true) true Tryz.f3.params.toList args.toList ds p := hA0
  rw [Tryz.params3] at hA hval
  obtain ⟨v0, vs0, d0, ds0, p0, q0, hargs, rfl, rfl, h0, r0⟩ := trodAll_cons hA
  obtain ⟨rfl, rfl, rfl⟩ := trodAll_nil r0
  obtain rfl : args = #[v0] := by cases args; simp_all
  obtain ⟨rfl, rfl⟩ := trodVars_none hV
  have k0 := h0
  obtain ⟨a0, rfl, rfl, rfl, w0⟩ := Go.ChangeMaps.open_string Tryz.underlying9 (hval 0 9 v0 rfl rfl) h0
  clear hA0 hval0
  simp only [List.append_nil] at hW'
  have hL' : laidMet Tryz.prog Rows.fnExactIsNormalTargetRow.laid W := by rw [← MakeChecks.laidMetH_plain _ _ _ (by kernel_rfl)]; exact hL
  refine (walk a0 w0 W (Laid.errs hL' (by simp [Rows.fnExactIsNormalTargetRow]) (by simp [Rows.fnExactIsNormalTargetRow])) (Sh.mxl_of hsh)).mono fun e W' ⟨he, hb⟩ => ?_
  subst he
  exact ⟨_, rfl, Base.post_below (pa := []) (pv := []) hW' (fun _ _ _ => (trodAll_cons_mk (shut_bool Tryz.underlying4 _) trodAll_mk0)) (fun sp _ => (trodAll_cons_mk (Go.ChangeMaps.shut_string Tryz.underlying9 w0) trodAll_mk0)) (fun _ _ => rfl) rfl
    hb (ok_one (by kernel_rfl) rfl (okWide_bool_mk Tryz.underlying4 _))⟩

theorem over : Rows.fnExactIsNormalTargetRow.holds Tryz.pinned (OpenSpec.ofChange Rows.fnExactIsNormalTargetSpec) :=
  OpenClaim.holds_of_wide 3 Tryz.f3 rfl rfl rfl rfl rfl rfl rfl ⟨rfl, rfl, rfl, rfl, rfl⟩ rfl rfl rfl rfl rfl (by kernel_rfl) Tryz.func3 (by kernel_rfl)
    (of_decide_eq_true (by kernel_rfl)) (by unfold Func.isWrapper; first | (rw [if_pos (by decide +kernel)]; kernel_rfl) | (rw [if_neg (by decide +kernel)]; exact ⟨rfl, rfl⟩))
    (fun os started H enc _ => lifted os started H enc)

/-- The given statement: the law's card, tied. -/
theorem proved : Rows.FnExactIsNormalTargetCardSaid :=
  Claim7.holds_tied_plain_at .later [] _ true _ _
    over (fun _ h => by cases h) (by kernel_rfl) (fun _ h => by cases h) fnExactIsNormalTarget_row_tie rfl ⟨rfl, rfl⟩ (by kernel_rfl) rfl
    (fun f fn hf hfn => by
      obtain rfl : f = 3 := Option.some.inj ((show Tryz.prog.funcNamed "loop.example/g03012/laws.FnExactIsNormalTarget" = some 3 by kernel_rfl).symm.trans hf) |>.symm
      obtain rfl : fn = Tryz.f3 := (Option.some.inj (Tryz.func3.symm.trans hfn)).symm
      exact ⟨by kernel_rfl, fun j t ht => by
        rw [Tryz.params3] at ht
        have hm : t ∈ [9] := by simpa using Array.mem_of_getElem? ht
        have hall : ([9].all fun u => !Tryz.prog.wantsStandIn u) = true := by kernel_rfl
        exact (show Tryz.prog.wantsStandIn t = false by simpa using List.all_eq_true.1 hall t hm)⟩)
    (by kernel_rfl)
#print axioms proved
end Go.Proofs.YtkedndamkjnmkaaGreatDoor.fnExactIsNormalTarget
