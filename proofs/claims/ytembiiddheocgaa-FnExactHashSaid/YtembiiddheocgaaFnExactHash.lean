/-
  PROVED: at every slice of integers the program's Hash returns what its model returns and writes into no argument: the exact law of Hash returns true and leaves its argument as it was. CONDITION: none.
-/
import Derived.Test.YtembiiddheocgaaBase
import Derived.Carry
import Derived.Test.YtembiiddheocgaaHashSpec
import Derived.Test.YtembiiddheocgaaHashImpl
import Derived.Test.YtembiiddheocgaaToInt
import Derived.Test.YtembiiddheocgaaEqInt
namespace Go.Proofs.Ytembiiddheocgaa.fnExactHash
open Go.ChangeShapes Go.WideShapes Go.ChangeAt Go.RowKit
set_option linter.unusedVariables false

theorem own : ownKnob Try.prog.godebug = none := by kernel_rfl

theorem laidOut : laidOutB Try.prog = true := by kernel_rfl

theorem walk (b0 : Option Addr) (l0 c0 : Nat) (z0 : List Int) (w0 : l0 ≤ maxLen ∧ z0.length = l0 ∧ Nums.Wf z0) (w : World) (y0 : Nums.Holds w (.slice b0 l0 c0) z0) :
    Calls Try.prog 4 #[.slice b0 l0 c0] w fun e w' => e = .returned (.bool true) ∧ Below w.heap.size w w' := by
  obtain ⟨_, hlen, hwf⟩ := w0
  by_cases hs : 1048576 < (l0 : Int)
  · clear hlen y0 hwf
    go_enter Try.func4, Try.ntmps4
    go_wp2
    go_ret
    exact ⟨rfl, Below.refl _ _⟩
  · have hz : z0.length ≤ 1000000000000 := by omega
    have HW := Lib.hid hwf
    clear hlen hwf
    go_enter Try.func4, Try.ntmps4
    go_wp2_with (fail)
    go_at_call 15
    refine (Nums.copy _ z0 _ y0 hz).mono ?_
    rintro e w1 ⟨v1, rfl, h1, hb1⟩
    go_wp2_with (fail)
    go_at_call 14
    refine (Dg.spec_hash v1 z0 _ h1 HW.out hz).mono ?_
    rintro e w' ⟨rfl, rfl⟩
    go_wp2_with (fail)
    go_at_call 15
    refine (Nums.copy _ z0 _ (Nums.holds_below y0 hb1) hz).mono ?_
    rintro e w2 ⟨v2, rfl, h2, hb2⟩
    have hb2 := Base.then_below hb1 hb2
    go_wp2_with (fail)
    go_at_call 9
    refine (Dg.impl_hash v2 z0 _ h2 HW.out hz).mono ?_
    rintro e w' ⟨rfl, rfl⟩
    go_wp2_with (fail)
    go_at_call 15
    refine (Nums.copy _ z0 _ (Nums.holds_below y0 hb2) hz).mono ?_
    rintro e w3 ⟨v3, rfl, h3, k3⟩
    have h2' := Nums.holds_below h2 k3
    have hb3 := Base.then_below hb2 k3
    clear k3 hb1 hb2 h1 h2
    go_wp2_with (fail)
    go_at_call 16
    refine (Nums.eq_same v2 v3 z0 _ h2' h3 hz).mono ?_
    rintro e w4 ⟨rfl, k4⟩
    have hb4 := Base.then_below hb3 k4
    go_wp2
    go_ret
    exact ⟨rfl, hb4⟩

set_option maxRecDepth 100000 in
theorem lifted (os : Os) (started : os.Started) (H : Type) (enc : TypeId × Value → H) :
    ReturnsInHanded {} Try.checked os 4 .any (Rows.fnExactHashSpec.pre6 enc Try.prog Try.f4 Rows.fnExactHashRow.domain false) (Rows.fnExactHashSpec.post enc Try.prog Try.f4 false true false false) := by
  refine returnsInHanded_of_change (C := Try.checked) own started (by kernel_rfl) Try.func4
    (ChangeSpec.witness6 (enc := enc) (C := Try.checked) false ⟨#[], #[.slice none 0 0], []⟩ 8 (by kernel_rfl) (by kernel_rfl) (by kernel_rfl) (by kernel_rfl)) ?_
  intro W base args ds gs before hval0 hW hcnd _
  have hval : ∀ (j : Nat) t v, Try.f4.params[j]? = some t → args[j]? = some v → Value.okWide Try.prog W .any base t v := hval0
  have hW' := hW
  obtain ⟨p, q, hA0, hV, rfl, hfz, hnd⟩ := hW
  have hA : DataW.TrodAll enc Try.prog W 0 (fun _ => true) true Try.f4.params.toList args.toList ds p := hA0
  rw [Try.params4] at hA hval
  obtain ⟨v0, vs0, d0, ds0, p0, q0, hargs, rfl, rfl, h0, r0⟩ := trodAll_cons hA
  obtain ⟨rfl, rfl, rfl⟩ := trodAll_nil r0
  obtain rfl : args = #[v0] := by cases args; simp_all
  obtain ⟨rfl, rfl⟩ := trodVars_none hV
  have k0 := h0
  obtain ⟨b0, l0, c0, z0, rfl, w01, w02, y0, w03⟩ := Nums.open_arg (hval 0 24 v0 rfl rfl) h0
  have w0 := And.intro w01 (And.intro w02 w03)
  clear hA0 hval0
  simp only [List.append_nil] at hW'
  refine (walk b0 l0 c0 z0 w0 W y0).mono fun e W' ⟨he, hb⟩ => ?_
  subst he
  exact ⟨_, rfl, ⟨_, _, _, [], _, [], hW', (trodAll_cons_mk (shut_bool Try.underlying4 _) trodAll_mk0), (trodAll_cons_mk (Below.trod laidOut (by kernel_rfl) (of_decide_eq_true (by kernel_rfl)) k0 hb (fun x hx => hW'.lt x (by simp [hx]))) trodAll_mk0), rfl, hb.frame _, fun h => by cases h⟩⟩

theorem over : Rows.fnExactHashRow.holds Try.pinned (OpenSpec.ofChange Rows.fnExactHashSpec) :=
  OpenClaim.holds_of_wide 4 Try.f4 rfl rfl rfl rfl rfl rfl rfl ⟨rfl, rfl, rfl, rfl, rfl⟩ rfl rfl rfl rfl rfl (by kernel_rfl) Try.func4 (by kernel_rfl)
    (of_decide_eq_true (by kernel_rfl)) (by unfold Func.isWrapper; first | (rw [if_pos (by decide +kernel)]; kernel_rfl) | (rw [if_neg (by decide +kernel)]; exact ⟨rfl, rfl⟩))
    (fun os started H enc _ => lifted os started H enc)

/-- The given statement. -/
theorem proved : Rows.FnExactHashSaid :=
  over
#print axioms proved
end Go.Proofs.Ytembiiddheocgaa.fnExactHash
