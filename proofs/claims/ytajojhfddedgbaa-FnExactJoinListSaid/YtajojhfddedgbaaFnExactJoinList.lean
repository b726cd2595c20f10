/-
  PROVED: at every slice of texts the program's JoinList returns what its model returns and writes into no argument: the exact law of JoinList returns true and leaves its argument as it was. CONDITION: none.
-/
import Derived.Test.YtajojhfddedgbaaBase
import Derived.Carry
import Derived.Test.YtajojhfddedgbaaJoinFn
import Derived.Test.YtajojhfddedgbaaStrEq
namespace Go.Proofs.Ytajojhfddedgbaa.fnExactJoinList
open Go.ChangeShapes Go.WideShapes Go.ChangeAt Go.RowKit
set_option linter.unusedVariables false

theorem own : ownKnob Try.prog.godebug = none := by kernel_rfl

theorem laidOut : laidOutB Try.prog = true := by kernel_rfl

set_option maxHeartbeats 1000000 in
theorem walk (b0 : Option Addr) (l0 c0 : Nat) (z0 : List (List UInt8)) (w0 : l0 ≤ maxLen ∧ z0.length = l0 ∧ (∀ x ∈ z0, x.length ≤ maxLen)) (w : World) (y0 : Strs.Holds w w.heap.size (.slice b0 l0 c0) z0) :
    Calls Try.prog 7 #[.slice b0 l0 c0] w fun e w' => e = .returned (.bool true) ∧ Below w.heap.size w w' := by
  obtain ⟨hm, hlen, hwf⟩ := w0
  have HW := Lib.hid hwf
  have HM := Lib.hid hm
  have HL := Lib.hid hlen
  have HY := Lib.hid y0
  clear hwf hm hlen y0
  go_enter Try.func7, Try.ntmps7
  go_wp2_with (fail)
  go_at_call 16
  refine (Strs.size_any _ _ z0 _ HY.out (by have := HM.out; have := HL.out; omega) HW.out).mono ?_
  rintro e w' ⟨z, rfl, hz, rfl⟩
  rcases hz with hz | ⟨hz, ht⟩
  · go_wp2
    go_ret
    exact ⟨rfl, Below.refl _ _⟩
  have hzn : ¬ z < 0 := by omega
  have ht4 : Strs.total z0 ≤ 4194304 := by omega
  have hlz : z0.length ≤ 1000000000000 := by unfold Strs.total at ht; omega
  have HT := Lib.hid (And.intro ht4 hlz)
  clear ht ht4 hlz
  go_wp2_with (fail)
  go_at_call 18
  refine (Strs.copy _ _ z0 _ HY.out HT.out.2).mono ?_
  rintro e w1 ⟨v1, rfl, o1, b1⟩
  have H1 := Lib.hid (Strs.own_holds o1)
  have HY := Lib.hid (Strs.holds_below HY.out b1)
  have B1 := Lib.hid b1
  clear o1 b1
  go_wp2_with (fail)
  go_at_call 17
  refine (Tx.spec_join v1 _ z0 _ H1.out HT.out.1).mono ?_
  rintro e w2 ⟨rfl, b2⟩
  have hs1 := B1.out.size
  have hs2 := b2.size
  have HY := Lib.hid (Strs.holds_below HY.out (b2.mono hs1))
  have B2 := Lib.hid (B1.out.trans (b2.mono hs1))
  clear b2 B1 H1
  go_wp2_with (fail)
  go_at_call 18
  refine (Strs.copy _ _ z0 _ HY.out HT.out.2).mono ?_
  rintro e w3 ⟨v3, rfl, o3, b3⟩
  have hs3 := b3.size
  have H3 := Lib.hid (Strs.own_holds o3)
  have HY := Lib.hid (Strs.holds_below HY.out (b3.mono (by omega)))
  have B3 := Lib.hid (B2.out.trans (b3.mono (by omega)))
  clear o3 b3 B2
  go_wp2_with (fail)
  go_at_call 19
  refine (Tx.impl_join v3 _ z0 _ H3.out HT.out.1).mono ?_
  rintro e w4 ⟨rfl, b4⟩
  have hs4 := b4.size
  have H3 := Lib.hid (Strs.holds_below H3.out b4)
  have HY := Lib.hid (Strs.holds_below HY.out (b4.mono (by omega)))
  have B4 := Lib.hid (B3.out.trans (b4.mono (by omega)))
  clear b4 B3
  go_wp2_with (fail)
  go_at_call 18
  refine (Strs.copy _ _ z0 _ HY.out HT.out.2).mono ?_
  rintro e w5 ⟨v5, rfl, o5, b5⟩
  have hs5 := b5.size
  have H5 := Lib.hid (Strs.own_holds o5)
  have H3 := Lib.hid (Strs.holds_below H3.out (b5.mono (by omega)))
  have B5 := Lib.hid (B4.out.trans (b5.mono (by omega)))
  clear o5 b5 B4
  go_wp2_with (fail)
  go_at_call 20
  refine (Strs.eq_same v3 v5 _ _ z0 _ H3.out H5.out HT.out.2).mono ?_
  rintro e w6 ⟨rfl, b6⟩
  have HE := Lib.hid (B5.out.trans (b6.mono (by omega)))
  clear b6
  go_wp2
  go_ret
  exact ⟨rfl, HE.out⟩

set_option maxRecDepth 100000 in
theorem lifted (os : Os) (started : os.Started) (H : Type) (enc : TypeId × Value → H) :
    ReturnsInHanded {} Try.checked os 7 .any (Rows.fnExactJoinListSpec.pre6 enc Try.prog Try.f7 Rows.fnExactJoinListRow.domain false) (Rows.fnExactJoinListSpec.post enc Try.prog Try.f7 false true false false) := by
  refine returnsInHanded_of_change (C := Try.checked) own started (by kernel_rfl) Try.func7
    (ChangeSpec.witness6 (enc := enc) (C := Try.checked) false ⟨#[], #[.slice none 0 0], []⟩ 8 (by kernel_rfl) (by kernel_rfl) (by kernel_rfl) (by kernel_rfl)) ?_
  intro W base args ds gs before hval0 hW hcnd _
  have hval : ∀ (j : Nat) t v, Try.f7.params[j]? = some t → args[j]? = some v → Value.okWide Try.prog W .any base t v := hval0
  have hW' := hW
  obtain ⟨p, q, hA0, hV, rfl, hfz, hnd⟩ := hW
  have hA : DataW.TrodAll enc Try.prog W 0 (fun _ => true) true Try.f7.params.toList args.toList ds p := hA0
  rw [Try.params7] at hA hval
  obtain ⟨v0, vs0, d0, ds0, p0, q0, hargs, rfl, rfl, h0, r0⟩ := trodAll_cons hA
  obtain ⟨rfl, rfl, rfl⟩ := trodAll_nil r0
  obtain rfl : args = #[v0] := by cases args; simp_all
  obtain ⟨rfl, rfl⟩ := trodVars_none hV
  have k0 := h0
  obtain ⟨b0, l0, c0, z0, rfl, w01, w02, y0, w03⟩ := Strs.open_arg (hval 0 26 v0 rfl rfl) h0
  have w0 := And.intro w01 (And.intro w02 w03)
  clear hA0 hval0
  simp only [List.append_nil] at hW'
  refine (walk b0 l0 c0 z0 w0 W y0).mono fun e W' ⟨he, hb⟩ => ?_
  subst he
  exact ⟨_, rfl, ⟨_, _, _, [], _, [], hW', (trodAll_cons_mk (shut_bool Try.underlying4 _) trodAll_mk0), (trodAll_cons_mk (Below.trod laidOut (by kernel_rfl) (of_decide_eq_true (by kernel_rfl)) k0 hb (fun x hx => hW'.lt x (by simp [hx]))) trodAll_mk0), rfl, hb.frame _, fun h => by cases h⟩⟩

theorem over : Rows.fnExactJoinListRow.holds Try.pinned (OpenSpec.ofChange Rows.fnExactJoinListSpec) :=
  OpenClaim.holds_of_wide 7 Try.f7 rfl rfl rfl rfl rfl rfl rfl ⟨rfl, rfl, rfl, rfl, rfl⟩ rfl rfl rfl rfl rfl (by kernel_rfl) Try.func7 (by kernel_rfl)
    (of_decide_eq_true (by kernel_rfl)) (by unfold Func.isWrapper; first | (rw [if_pos (by decide +kernel)]; kernel_rfl) | (rw [if_neg (by decide +kernel)]; exact ⟨rfl, rfl⟩))
    (fun os started H enc _ => lifted os started H enc)

/-- The given statement. -/
theorem proved : Rows.FnExactJoinListSaid :=
  over
#print axioms proved
end Go.Proofs.Ytajojhfddedgbaa.fnExactJoinList
