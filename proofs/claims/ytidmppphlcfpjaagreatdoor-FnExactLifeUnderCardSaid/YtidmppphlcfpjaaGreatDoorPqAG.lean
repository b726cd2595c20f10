/-
  CONTRACTS AND PLAIN FACTS, several texts in one; each says in its own words what it proves.
-/
import Derived.Test.YtidmppphlcfpjaaGreatDoorPqA
import Derived.Test.YtidmppphlcfpjaaGreatDoorPqAF
import Derived.Carry
import Derived.Test.YtidmppphlcfpjaaGreatDoorPqB
import Derived.Test.YtidmppphlcfpjaaGreatDoorPqC
import Derived.Test.YtidmppphlcfpjaaGreatDoorPqAD
import Derived.Test.YtidmppphlcfpjaaGreatDoorPqAE
import Derived.Test.YtidmppphlcfpjaaGreatDoorPqS
import Derived.Test.YtidmppphlcfpjaaGreatDoorPqY
import Derived.Test.YtidmppphlcfpjaaGreatDoorPqL
import Derived.Test.YtidmppphlcfpjaaGreatDoorTie
import Derived.Test.YtidmppphlcfpjaaGreatDoorCards
import Derived.LaidMore
import Derived.Lay
import Derived.OpenVars
import Derived.Stop.LaidErr
import Derived.RegionTactic
import Derived.Deep.RegionHeldLaw
set_option linter.unusedSimpArgs false
set_option linter.unusedVariables false

/-
  PROVED: the law of LifeUnder, lifted from its walk to the statement's form. Mine.
-/
namespace Go.Proofs.YtidmppphlcfpjaaGreatDoor.fnExactLifeUnder
open Go.ChangeShapes Go.WideShapes Go.ChangeAt Go.RowKit
set_option linter.unusedVariables false
set_option maxRecDepth 1000000

theorem own : ownKnob Tryz.prog.godebug = none := by kernel_rfl

theorem vars_len {H : Type} {enc : TypeId × Value → H} {P : Program} {w : World} {sp : Nat → Bool} : ∀ {ns : List String} {gs : List (DataW H)} {ps : List MemPlace}, DataW.TrodVars enc P w sp ns gs ps → gs.length = ns.length
  | [], [], _, _ => rfl
  | [], _ :: _, _, h => h.elim
  | _ :: _, [], _, h => h.elim
  | _ :: ns, _ :: gs, _, ⟨_, _, _, _, _, _, _, _, _, _, h, _⟩ => congrArg Nat.succ (vars_len h)

theorem laidOut : laidOutB Tryz.prog = true := by kernel_rfl

set_option maxRecDepth 1000000 in
theorem lifted (os : Os) (started : os.Started) (H : Type) (enc : TypeId × Value → H) :
    ReturnsInHanded {} Tryz.checked os 5 .any (fun w args => (Rows.fnExactLifeUnderSpec.pre enc Tryz.prog Tryz.f5 [] false w args ∧ laidMetH Tryz.prog Rows.fnExactLifeUnderRow.laid w) ∧ sizedMet enc Tryz.prog Tryz.f5 (OpenSpec.ofChange Rows.fnExactLifeUnderSpec) false w args)
      (Rows.fnExactLifeUnderSpec.post enc Tryz.prog Tryz.f5 false true false false) := by
  refine Sh.and_shaped (C := Tryz.checked) (X := fun w _ => laidMetH Tryz.prog Rows.fnExactLifeUnderRow.laid w) (fun _ _ _ hh h => h.of_heap hh) own started (by kernel_rfl) Tryz.func5
    (ChangeSpec.witness_shaped (enc := enc) (C := Tryz.checked) (os := os) (X := fun w _ => laidMetH Tryz.prog Rows.fnExactLifeUnderRow.laid w) false (World.laidAll Tryz.prog os Rows.fnExactLifeUnderRow.laid) #[.slice none 0 0, .agg #[.string ⟨#[]⟩, .string ⟨#[]⟩, .string ⟨#[]⟩, .slice none 0 0], .agg #[.int .i64 0, .slice none 0 0, .string ⟨#[]⟩]] 8 (World.laidAll_os _ _ _) (World.shaped_of_ZipB (by kernel_rfl) (by kernel_rfl)) (by kernel_rfl) (by kernel_rfl) (by kernel_rfl)
      (by rw [MakeChecks.laidMetH_plain _ _ _ (by kernel_rfl)]; exact laidMet_laidAll _ (by kernel_rfl) (by kernel_rfl))) ?_
  intro W base args ds gs before hval0 hW hsh hL
  have hval : ∀ (j : Nat) t v, Tryz.f5.params[j]? = some t → args[j]? = some v → Value.okWide Tryz.prog W .any base t v := hval0
  have hW' := hW
  obtain ⟨p, q, hA0, hV, rfl, hfz, hnd⟩ := hW
  have hA : DataW.TrodAll enc Tryz.prog W 0 (fun _ => true) true Tryz.f5.params.toList args.toList ds p := hA0
  rw [Tryz.params5] at hA hval
  obtain ⟨v0, vs0, d0, ds0, p0, q0, hargs, rfl, rfl, h0, r0⟩ := trodAll_cons hA
  obtain ⟨v1, vs1, d1, ds1, p1, q1, rfl, rfl, rfl, h1, r1⟩ := trodAll_cons r0
  obtain ⟨v2, vs2, d2, ds2, p2, q2, rfl, rfl, rfl, h2, r2⟩ := trodAll_cons r1
  obtain ⟨rfl, rfl, rfl⟩ := trodAll_nil r2
  obtain rfl : args = #[v0, v1, v2] := by cases args; simp_all
  have hgl := vars_len hV
  obtain ⟨g0, g1, g2, g3, g4, rfl⟩ : ∃ g0 g1 g2 g3 g4, gs = [g0, g1, g2, g3, g4] := match gs, hgl with | [x0, x1, x2, x3, x4], _ => ⟨x0, x1, x2, x3, x4, rfl⟩
  have k0 := h0
  obtain ⟨z0, y0, w01, w02⟩ := Rul.open_arg (hval 0 32 v0 rfl rfl) h0
  have w0 := And.intro w01 w02
  have k1 := h1
  obtain ⟨m1, hh1, t1, u1, l1, rfl, y1, w1⟩ := Msg.open_req (hval 1 35 v1 rfl rfl) h1
  have k2 := h2
  obtain ⟨c2, u2, l2, b2, rfl, y2, w2⟩ := Msg.open_rsp (hval 2 37 v2 rfl rfl) h2
  clear hA0 hval0
  simp only [List.append_nil] at hW'
  have hL' : laidMet Tryz.prog Rows.fnExactLifeUnderRow.laid W := by rw [← MakeChecks.laidMetH_plain _ _ _ (by kernel_rfl)]; exact hL
  refine (walk v0 z0 m1 hh1 t1 u1 l1 c2 u2 l2 b2 w0 w1 w2 W y0 y1 y2 ⟨Laid.mds hL' (by simp [Rows.fnExactLifeUnderRow]), Dt.laid_names hL' (by simp [Rows.fnExactLifeUnderRow]) (by simp [Rows.fnExactLifeUnderRow]), Laid.tens hL' (by simp [Rows.fnExactLifeUnderRow])⟩ (Dir.laid_errs hL' (by simp [Rows.fnExactLifeUnderRow]) (by simp [Rows.fnExactLifeUnderRow])) (Laid.errs hL' (by simp [Rows.fnExactLifeUnderRow]) (by simp [Rows.fnExactLifeUnderRow])) (Sh.mxl_of hsh)).mono fun e W' ⟨he, hb⟩ => ?_
  subst he
  exact ⟨_, rfl, ⟨_, _, _, [], _, _, hW', (trodAll_cons_mk (shut_bool Tryz.underlying4 _) trodAll_mk0), (trodAll_cons_mk (Below.trod laidOut (by kernel_rfl) (of_decide_eq_true (by kernel_rfl)) k0 hb (fun x hx => hW'.lt x (by simp [hx]))) (trodAll_cons_mk (Below.trod laidOut (by kernel_rfl) (of_decide_eq_true (by kernel_rfl)) k1 hb (fun x hx => hW'.lt x (by simp [hx]))) (trodAll_cons_mk (Below.trod laidOut (by kernel_rfl) (of_decide_eq_true (by kernel_rfl)) k2 hb (fun x hx => hW'.lt x (by simp [hx]))) trodAll_mk0))), Below.trodVars laidOut hb (by kernel_rfl) hV, hb.frame _, fun h => by cases h⟩⟩

end Go.Proofs.YtidmppphlcfpjaaGreatDoor.fnExactLifeUnder
