/-
  PROVED: at every integer of 64 bits the program's FormatDate returns what its model returns: the exact law of FormatDate returns true and leaves its argument as it was. CONDITION: the program's tables of weekdays, months and days of the months and the library's table of powers of ten that the row lists read as their texts lay them (the card ties them to the text of the pruned project).
-/
import Derived.Test.YtkmkmgbehnedoaaDoorBase
import Derived.Carry
import Derived.Test.YtkmkmgbehnedoaaDoorDateI
import Derived.Test.YtkmkmgbehnedoaaDoorDateS2
import Derived.Test.YtkmkmgbehnedoaaDoorLaidNm
import Derived.Test.YtkmkmgbehnedoaaDoorLaidTens
import Derived.Test.YtkmkmgbehnedoaaDoorLaidMds
import Derived.Test.YtkmkmgbehnedoaaDoorTie
import Derived.Test.YtkmkmgbehnedoaaDoorCards
import Derived.LaidMore
import Derived.Lay
import Derived.OpenVars
import Derived.Stop.LaidErr
namespace Go.Proofs.YtkmkmgbehnedoaaDoor.fnExactFormatDate
open Go.ChangeShapes Go.WideShapes Go.ChangeAt Go.RowKit
set_option linter.unusedVariables false

theorem own : ownKnob Tryd.prog.godebug = none := by kernel_rfl

theorem vars_len {H : Type} {enc : TypeId × Value → H} {P : Program} {w : World} {sp : Nat → Bool} : ∀ {ns : List String} {gs : List (DataW H)} {ps : List MemPlace}, DataW.TrodVars enc P w sp ns gs ps → gs.length = ns.length
  | [], [], _, _ => rfl
  | [], _ :: _, _, h => h.elim
  | _ :: _, [], _, h => h.elim
  | _ :: ns, _ :: gs, _, ⟨_, _, _, _, _, _, _, _, _, _, h, _⟩ => congrArg Nat.succ (vars_len h)

theorem laidOut : laidOutB Tryd.prog = true := by kernel_rfl

set_option maxRecDepth 100000 in
set_option maxHeartbeats 2000000 in
theorem walk (a0 : Int) (w0 : (Lit.int .i64 a0).wf = true) (w : World) (ht : Dt.Mds w) (hn : Dt.Names w) (hten : Fmt.Tens w) :
    Calls Tryd.prog 4 #[.int .i64 a0] w fun e w' => e = .returned (.bool true) ∧ Below w.heap.size w w' := by
  by_cases hr : 0 ≤ a0 ∧ a0 ≤ 4102444799
  · have HS := Lib.hid (Dt.spec_date a0 w hr.1 hr.2)
    have HI := Lib.hid (fun W (hb : Below w.heap.size w W) => Dt.impl_date a0 W hr.1 hr.2 (Dt.mds_below ht hb) (Dt.names_below hn hb) (Fmt.tens_below hten hb))
    clear hr ht hn hten
    go_enter Tryd.func4, Tryd.ntmps4
    go_wp2_with (fail)
    go_at_call 22
    refine HS.out.mono ?_
    rintro e w1 ⟨y, m, d, hcv, rfl, hb1⟩
    have HB := Lib.hid hb1
    have HC := Lib.hid hcv
    clear hb1 hcv
    generalize hf : Dt.form1 a0 y m d = f
    have HF := Lib.hid hf
    clear hf
    go_wp2_with (fail)
    go_at_call 13
    refine (HI.out _ HB.out).mono ?_
    rintro e w2 ⟨y', m', d', hcv, he, hb2⟩
    obtain ⟨rfl, rfl, rfl⟩ := Dt.cv_uniq HC.out hcv
    rw [HF.out] at he
    subst he
    have HB2 := Lib.hid (Base.then_below HB.out hb2)
    clear hb2 hcv
    go_wp2
    go_ret
    exact ⟨rfl, HB2.out⟩
  · have hr' : a0 < 0 ∨ 4102444799 < a0 := by omega
    have HS := Lib.hid (Dt.spec_date_out a0 w hr')
    have HI := Lib.hid (fun W => Dt.impl_date_out a0 W hr')
    clear hr hr' ht hn hten
    go_enter Tryd.func4, Tryd.ntmps4
    go_wp2_with (fail)
    go_at_call 22
    refine HS.out.mono ?_
    rintro e w1 ⟨rfl, hb1⟩
    have HB := Lib.hid hb1
    clear hb1
    go_wp2_with (fail)
    go_at_call 13
    refine (HI.out _).mono ?_
    rintro e w2 ⟨rfl, hb2⟩
    have HB2 := Lib.hid (Base.then_below HB.out hb2)
    clear hb2
    go_wp2
    go_ret
    exact ⟨rfl, HB2.out⟩

set_option maxRecDepth 100000 in
theorem lifted (os : Os) (started : os.Started) (H : Type) (enc : TypeId × Value → H) :
    ReturnsInHanded {} Tryd.checked os 4 .any (fun w args => (Rows.fnExactFormatDateSpec.pre enc Tryd.prog Tryd.f4 [] false w args ∧ laidMetH Tryd.prog Rows.fnExactFormatDateRow.laid w) ∧ sizedMet enc Tryd.prog Tryd.f4 (OpenSpec.ofChange Rows.fnExactFormatDateSpec) false w args)
      (Rows.fnExactFormatDateSpec.post enc Tryd.prog Tryd.f4 false true false false) := by
  refine returnsInHanded_of_change_and (C := Tryd.checked) (X := fun w _ => laidMetH Tryd.prog Rows.fnExactFormatDateRow.laid w) (fun _ _ _ hh h => h.of_heap hh) own started (by kernel_rfl) Tryd.func4
    (ChangeSpec.witness_shaped (enc := enc) (C := Tryd.checked) (os := os) (X := fun w _ => laidMetH Tryd.prog Rows.fnExactFormatDateRow.laid w) false (World.doorLaid Tryd.prog 400 os) #[.int .i64 0] 8 rfl (World.shaped_of_RefB (by kernel_rfl) (by kernel_rfl)) (by kernel_rfl) (by kernel_rfl) (by kernel_rfl)
      (by rw [MakeChecks.laidMetH_plain _ _ _ (by kernel_rfl)]; exact laidMet_of_run' 8 (by kernel_rfl) (by kernel_rfl))) ?_
  intro W base args ds gs before hval0 hW _ _ hL _
  have hval : ∀ (j : Nat) t v, Tryd.f4.params[j]? = some t → args[j]? = some v → Value.okWide Tryd.prog W .any base t v := hval0
  have hW' := hW
  obtain ⟨p, q, hA0, hV, rfl, hfz, hnd⟩ := hW
  have hA : DataW.TrodAll enc Tryd.prog W 0 (fun _ => true) true Tryd.f4.params.toList args.toList ds p := hA0
  rw [Tryd.params4] at hA hval
  obtain ⟨v0, vs0, d0, ds0, p0, q0, hargs, rfl, rfl, h0, r0⟩ := trodAll_cons hA
  obtain ⟨rfl, rfl, rfl⟩ := trodAll_nil r0
  obtain rfl : args = #[v0] := by cases args; simp_all
  have hgl := vars_len hV
  obtain ⟨g0, g1, g2, rfl⟩ : ∃ g0 g1 g2, gs = [g0, g1, g2] := match gs, hgl with | [x0, x1, x2], _ => ⟨x0, x1, x2, rfl⟩
  have k0 := h0
  obtain ⟨a0, rfl, rfl, rfl, w0⟩ := open_int Tryd.underlying3 (hval 0 3 v0 rfl rfl) h0
  clear hA0 hval0
  simp only [List.append_nil] at hW'
  have hL' : laidMet Tryd.prog Rows.fnExactFormatDateRow.laid W := by rw [← MakeChecks.laidMetH_plain _ _ _ (by kernel_rfl)]; exact hL
  refine (walk a0 w0 W (Laid.mds hL' (by simp [Rows.fnExactFormatDateRow])) (Dt.laid_names hL' (by simp [Rows.fnExactFormatDateRow]) (by simp [Rows.fnExactFormatDateRow])) (Laid.tens hL' (by simp [Rows.fnExactFormatDateRow]))).mono fun e W' ⟨he, hb⟩ => ?_
  subst he
  exact ⟨_, rfl, ⟨_, _, _, [], _, _, hW', (trodAll_cons_mk (shut_bool Tryd.underlying4 _) trodAll_mk0), (trodAll_cons_mk (shut_int Tryd.underlying3 w0) trodAll_mk0), Below.trodVars laidOut hb (by kernel_rfl) hV, hb.frame _, fun h => by cases h⟩⟩

theorem over : Rows.fnExactFormatDateRow.holds Tryd.pinned (OpenSpec.ofChange Rows.fnExactFormatDateSpec) :=
  OpenClaim.holds_of_wide 4 Tryd.f4 rfl rfl rfl rfl rfl rfl rfl ⟨rfl, rfl, rfl, rfl, rfl⟩ rfl rfl rfl rfl rfl (by kernel_rfl) Tryd.func4 (by kernel_rfl)
    (of_decide_eq_true (by kernel_rfl)) (by unfold Func.isWrapper; first | (rw [if_pos (by decide +kernel)]; kernel_rfl) | (rw [if_neg (by decide +kernel)]; exact ⟨rfl, rfl⟩))
    (fun os started H enc _ => lifted os started H enc)

/-- The given statement: the law's card, tied. -/
theorem proved : Rows.FnExactFormatDateCardSaid :=
  Claim7.holds_tied_plain_at .later [] _ true _ _
    over (fun _ h => by cases h) (by kernel_rfl) (fun _ h => by cases h) fnExactFormatDate_row_tie rfl ⟨rfl, rfl⟩ (by kernel_rfl) rfl
    (fun f fn hf hfn => by
      obtain rfl : f = 4 := Option.some.inj ((show Tryd.prog.funcNamed "loop.example/g03012/laws.FnExactFormatDate" = some 4 by kernel_rfl).symm.trans hf) |>.symm
      obtain rfl : fn = Tryd.f4 := (Option.some.inj (Tryd.func4.symm.trans hfn)).symm
      exact ⟨by kernel_rfl, fun j t ht => by
        rw [Tryd.params4] at ht
        have hm : t ∈ [3] := by simpa using Array.mem_of_getElem? ht
        have hall : ([3].all fun u => !Tryd.prog.wantsStandIn u) = true := by kernel_rfl
        exact (show Tryd.prog.wantsStandIn t = false by simpa using List.all_eq_true.1 hall t hm)⟩)
    (by kernel_rfl)
#print axioms proved
end Go.Proofs.YtkmkmgbehnedoaaDoor.fnExactFormatDate
