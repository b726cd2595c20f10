/-
  PROVED: at any two lists of fields the program's SameFields returns what its model returns and writes into no argument: the exact law of SameFields returns true and leaves its arguments as they were. CONDITION: none.
-/
import Derived.Test.YtdnnnkilbflhlaaBase
import Derived.Carry
import Derived.Test.YtdnnnkilbflhlaaFldArg
import Derived.Test.YtdnnnkilbflhlaaFldCopy
import Derived.Test.YtdnnnkilbflhlaaFldSame
namespace Go.Proofs.Ytdnnnkilbflhlaa.fnExactSameFields
open Go.ChangeShapes Go.WideShapes Go.ChangeAt Go.RowKit
set_option linter.unusedVariables false

theorem own : ownKnob Try.prog.godebug = none := by kernel_rfl

theorem laidOut : laidOutB Try.prog = true := by kernel_rfl

set_option maxHeartbeats 1000000 in
theorem walk (v0 : Value) (z0 : List Flds.Fld) (v1 : Value) (z1 : List Flds.Fld) (w0 : z0.length ≤ maxLen ∧ (∀ f ∈ z0, f.1.length ≤ maxLen ∧ f.2.length ≤ maxLen)) (w1 : z1.length ≤ maxLen ∧ (∀ f ∈ z1, f.1.length ≤ maxLen ∧ f.2.length ≤ maxLen)) (w : World) (y0 : Flds.Holds w w.heap.size v0 z0) (y1 : Flds.Holds w w.heap.size v1 z1) :
    Calls Try.prog 6 #[v0, v1] w fun e w' => e = .returned (.bool true) ∧ Below w.heap.size w w' := by
  have HW0 := Lib.hid w0
  have HW1 := Lib.hid w1
  have HY0 := Lib.hid y0
  have HY1 := Lib.hid y1
  clear w0 w1 y0 y1
  go_enter Try.func6, Try.ntmps6
  go_wp2_with (fail)
  go_at_call 9
  refine (Flds.size_any _ _ z0 _ _ HY0.out HW0.out.1 HW0.out.2 (by decide) (by decide)).mono ?_
  rintro e wa ⟨z, rfl, hz, ba⟩
  have HB := Lib.hid ba
  clear ba
  rcases hz with hz | ⟨hz, ht⟩
  · go_wp2
    go_ret
    exact ⟨rfl, HB.out⟩
  have hzn : ¬ z < 0 := by omega
  have hz3 : z ≤ 1048576 := by omega
  have hl0 : z0.length ≤ 1048576 := by unfold Flds.total at ht; omega
  have HL0 := Lib.hid hl0
  have HZ := Lib.hid hz3
  have HY0 := Lib.hid (Flds.holds_below HY0.out HB.out)
  have HY1 := Lib.hid (Flds.holds_below HY1.out HB.out)
  clear ht hl0 hz3
  go_wp2_with (fail)
  go_at_call 9
  refine (Flds.size_any _ _ z1 z _ HY1.out HW1.out.1 HW1.out.2 hz HZ.out).mono ?_
  rintro e wb ⟨y, rfl, hy, bb⟩
  have hs1 := HB.out.size
  have HY0 := Lib.hid (Flds.holds_below HY0.out (bb.mono hs1))
  have HY1 := Lib.hid (Flds.holds_below HY1.out (bb.mono hs1))
  have HB := Lib.hid (Base.then_below HB.out bb)
  clear bb
  rcases hy with hy | ⟨hy, ht⟩
  · go_wp2
    go_ret
    exact ⟨rfl, HB.out⟩
  have hyn : ¬ y < 0 := by omega
  have hl1 : z1.length ≤ 1048576 := by have := HZ.out; unfold Flds.total at ht; omega
  have HL1 := Lib.hid hl1
  have hs1 := HB.out.size
  clear ht hl1
  go_wp2_with (fail)
  go_at_call 11
  refine (Flds.copy _ _ z0 _ HY0.out HL0.out).mono ?_
  rintro e wc ⟨va, rfl, oa, bc⟩
  have hs2 := bc.size
  have HA := Lib.hid (Flds.own_holds oa)
  have HY0 := Lib.hid (Flds.holds_below HY0.out (bc.mono (by omega)))
  have HY1 := Lib.hid (Flds.holds_below HY1.out (bc.mono (by omega)))
  have HB := Lib.hid (Base.then_below HB.out bc)
  clear oa bc
  go_wp2_with (fail)
  go_at_call 11
  refine (Flds.copy _ _ z1 _ HY1.out HL1.out).mono ?_
  rintro e wd ⟨vb, rfl, ob, bd⟩
  have hs3 := bd.size
  have HA := Lib.hid (Flds.holds_below HA.out bd)
  have HBB := Lib.hid (Flds.own_holds ob)
  have HY0 := Lib.hid (Flds.holds_below HY0.out (bd.mono (by omega)))
  have HY1 := Lib.hid (Flds.holds_below HY1.out (bd.mono (by omega)))
  have HB := Lib.hid (Base.then_below HB.out bd)
  clear ob bd
  go_wp2_with (fail)
  go_at_call 20
  refine (Flds.spec_same va vb _ _ z0 z1 _ HA.out HBB.out HL0.out HL1.out).mono ?_
  rintro e we ⟨rfl, be⟩
  have hs4 := be.size
  have HY0 := Lib.hid (Flds.holds_below HY0.out (be.mono (by omega)))
  have HY1 := Lib.hid (Flds.holds_below HY1.out (be.mono (by omega)))
  have HB := Lib.hid (Base.then_below HB.out be)
  clear be HA HBB
  go_wp2_with (fail)
  go_at_call 11
  refine (Flds.copy _ _ z0 _ HY0.out HL0.out).mono ?_
  rintro e wc ⟨va, rfl, oa, bc⟩
  have hs5 := bc.size
  have HA := Lib.hid (Flds.own_holds oa)
  have HY0 := Lib.hid (Flds.holds_below HY0.out (bc.mono (by omega)))
  have HY1 := Lib.hid (Flds.holds_below HY1.out (bc.mono (by omega)))
  have HB := Lib.hid (Base.then_below HB.out bc)
  clear oa bc
  go_wp2_with (fail)
  go_at_call 11
  refine (Flds.copy _ _ z1 _ HY1.out HL1.out).mono ?_
  rintro e wd ⟨vb, rfl, ob, bd⟩
  have hs6 := bd.size
  have HA := Lib.hid (Flds.holds_below HA.out bd)
  have HBB := Lib.hid (Flds.own_holds ob)
  have HY0 := Lib.hid (Flds.holds_below HY0.out (bd.mono (by omega)))
  have HY1 := Lib.hid (Flds.holds_below HY1.out (bd.mono (by omega)))
  have HB := Lib.hid (Base.then_below HB.out bd)
  clear ob bd
  go_wp2_with (fail)
  go_at_call 21
  refine (Flds.impl_same va vb _ _ z0 z1 _ HA.out HBB.out HL0.out HL1.out).mono ?_
  rintro e we ⟨rfl, be⟩
  have hs7 := be.size
  have HA := Lib.hid (Flds.holds_below HA.out (be.mono (by omega)))
  have HBB := Lib.hid (Flds.holds_below HBB.out be)
  have HY0 := Lib.hid (Flds.holds_below HY0.out (be.mono (by omega)))
  have HY1 := Lib.hid (Flds.holds_below HY1.out (be.mono (by omega)))
  have HB := Lib.hid (Base.then_below HB.out be)
  clear be
  generalize decide (z0 = z1) = q
  go_wp2_with (fail)
  go_at_call 11
  refine (Flds.copy _ _ z0 _ HY0.out HL0.out).mono ?_
  rintro e wc ⟨vc, rfl, oa, bc⟩
  have hs8 := bc.size
  have HC := Lib.hid (Flds.own_holds oa)
  have HA := Lib.hid (Flds.holds_below HA.out (bc.mono (by omega)))
  have HBB := Lib.hid (Flds.holds_below HBB.out (bc.mono (by omega)))
  have HY1 := Lib.hid (Flds.holds_below HY1.out (bc.mono (by omega)))
  have HB := Lib.hid (Base.then_below HB.out bc)
  clear oa bc
  go_wp2_with (fail)
  go_at_call 13
  refine (Flds.eq_same va vc _ _ z0 _ HA.out HC.out HL0.out).mono ?_
  rintro e wf ⟨rfl, bf⟩
  have hs9 := bf.size
  have HBB := Lib.hid (Flds.holds_below HBB.out (bf.mono (by omega)))
  have HY1 := Lib.hid (Flds.holds_below HY1.out (bf.mono (by omega)))
  have HB := Lib.hid (Base.then_below HB.out bf)
  clear bf HA HC
  go_wp2_with (fail)
  go_at_call 11
  refine (Flds.copy _ _ z1 _ HY1.out HL1.out).mono ?_
  rintro e wc ⟨vc, rfl, oa, bc⟩
  have hs10 := bc.size
  have HC := Lib.hid (Flds.own_holds oa)
  have HBB := Lib.hid (Flds.holds_below HBB.out (bc.mono (by omega)))
  have HB := Lib.hid (Base.then_below HB.out bc)
  clear oa bc
  go_wp2_with (fail)
  go_at_call 13
  refine (Flds.eq_same vb vc _ _ z1 _ HBB.out HC.out HL1.out).mono ?_
  rintro e wf ⟨rfl, bf⟩
  have HB := Lib.hid (Base.then_below HB.out bf)
  clear bf
  go_wp2
  go_ret
  exact ⟨rfl, HB.out⟩

set_option maxRecDepth 100000 in
theorem lifted (os : Os) (started : os.Started) (H : Type) (enc : TypeId × Value → H) :
    ReturnsInHanded {} Try.checked os 6 .any (Rows.fnExactSameFieldsSpec.pre6 enc Try.prog Try.f6 Rows.fnExactSameFieldsRow.domain false) (Rows.fnExactSameFieldsSpec.post enc Try.prog Try.f6 false true false false) := by
  refine returnsInHanded_of_change (C := Try.checked) own started (by kernel_rfl) Try.func6
    (ChangeSpec.witness6 (enc := enc) (C := Try.checked) false ⟨#[], #[.slice none 0 0, .slice none 0 0], []⟩ 8 (by kernel_rfl) (by kernel_rfl) (by kernel_rfl) (by kernel_rfl)) ?_
  intro W base args ds gs before hval0 hW hcnd _
  have hval : ∀ (j : Nat) t v, Try.f6.params[j]? = some t → args[j]? = some v → Value.okWide Try.prog W .any base t v := hval0
  have hW' := hW
  obtain ⟨p, q, hA0, hV, rfl, hfz, hnd⟩ := hW
  have hA : DataW.TrodAll enc Try.prog W 0 (fun _ => true) true Try.f6.params.toList args.toList ds p := hA0
  rw [Try.params6] at hA hval
  obtain ⟨v0, vs0, d0, ds0, p0, q0, hargs, rfl, rfl, h0, r0⟩ := trodAll_cons hA
  obtain ⟨v1, vs1, d1, ds1, p1, q1, rfl, rfl, rfl, h1, r1⟩ := trodAll_cons r0
  obtain ⟨rfl, rfl, rfl⟩ := trodAll_nil r1
  obtain rfl : args = #[v0, v1] := by cases args; simp_all
  obtain ⟨rfl, rfl⟩ := trodVars_none hV
  have k0 := h0
  obtain ⟨z0, y0, w01, w02⟩ := Flds.open_arg (hval 0 22 v0 rfl rfl) h0
  have w0 := And.intro w01 w02
  have k1 := h1
  obtain ⟨z1, y1, w11, w12⟩ := Flds.open_arg (hval 1 22 v1 rfl rfl) h1
  have w1 := And.intro w11 w12
  clear hA0 hval0
  simp only [List.append_nil] at hW'
  refine (walk v0 z0 v1 z1 w0 w1 W y0 y1).mono fun e W' ⟨he, hb⟩ => ?_
  subst he
  exact ⟨_, rfl, ⟨_, _, _, [], _, [], hW', (trodAll_cons_mk (shut_bool Try.underlying4 _) trodAll_mk0), (trodAll_cons_mk (Below.trod laidOut (by kernel_rfl) (of_decide_eq_true (by kernel_rfl)) k0 hb (fun x hx => hW'.lt x (by simp [hx]))) (trodAll_cons_mk (Below.trod laidOut (by kernel_rfl) (of_decide_eq_true (by kernel_rfl)) k1 hb (fun x hx => hW'.lt x (by simp [hx]))) trodAll_mk0)), rfl, hb.frame _, fun h => by cases h⟩⟩

theorem over : Rows.fnExactSameFieldsRow.holds Try.pinned (OpenSpec.ofChange Rows.fnExactSameFieldsSpec) :=
  OpenClaim.holds_of_wide 6 Try.f6 rfl rfl rfl rfl rfl rfl rfl ⟨rfl, rfl, rfl, rfl, rfl⟩ rfl rfl rfl rfl rfl (by kernel_rfl) Try.func6 (by kernel_rfl)
    (of_decide_eq_true (by kernel_rfl)) (by unfold Func.isWrapper; first | (rw [if_pos (by decide +kernel)]; kernel_rfl) | (rw [if_neg (by decide +kernel)]; exact ⟨rfl, rfl⟩))
    (fun os started H enc _ => lifted os started H enc)

/-- The given statement. -/
theorem proved : Rows.FnExactSameFieldsSaid :=
  over
#print axioms proved
end Go.Proofs.Ytdnnnkilbflhlaa.fnExactSameFields
