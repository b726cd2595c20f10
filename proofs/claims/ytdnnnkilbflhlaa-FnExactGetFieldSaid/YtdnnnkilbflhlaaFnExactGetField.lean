/-
  PROVED: at any list of fields and any name the program's GetField returns what its model returns and writes into no argument: the exact law of GetField returns true and leaves its arguments as they were. CONDITION: none.
-/
import Derived.Test.YtdnnnkilbflhlaaBase
import Derived.Carry
import Derived.Test.YtdnnnkilbflhlaaFldArg
import Derived.Test.YtdnnnkilbflhlaaFldCopy
import Derived.Test.YtdnnnkilbflhlaaFldEq
import Derived.Test.YtdnnnkilbflhlaaFldGet
namespace Go.Proofs.Ytdnnnkilbflhlaa.fnExactGetField
open Go.ChangeShapes Go.WideShapes Go.ChangeAt Go.RowKit
set_option linter.unusedVariables false

theorem own : ownKnob Try.prog.godebug = none := by kernel_rfl

theorem laidOut : laidOutB Try.prog = true := by kernel_rfl

set_option maxHeartbeats 1000000 in
theorem walk (v0 : Value) (z0 : List Flds.Fld) (a1 : ByteArray) (w0 : z0.length ≤ maxLen ∧ (∀ f ∈ z0, f.1.length ≤ maxLen ∧ f.2.length ≤ maxLen)) (w1 : a1.size ≤ maxLen) (w : World) (y0 : Flds.Holds w w.heap.size v0 z0) :
    Calls Try.prog 3 #[v0, .string a1] w fun e w' => e = .returned (.bool true) ∧ Below w.heap.size w w' := by
  obtain ⟨n, rfl⟩ : ∃ n : List UInt8, a1 = ⟨n.toArray⟩ := ⟨a1.data.toList, rfl⟩
  have hsz : (⟨n.toArray⟩ : ByteArray).size = n.length := by simp [ByteArray.size]
  have hnl : n.length ≤ 9223372036854775807 := by rw [hsz] at w1; exact w1
  have HW0 := Lib.hid w0
  have HY0 := Lib.hid y0
  clear w0 y0 w1
  by_cases hbig : n.length ≤ 1048576
  case neg =>
    go_enter Try.func3, Try.ntmps3
    go_wp2
    go_ret
    exact ⟨rfl, Below.refl _ _⟩
  go_enter Try.func3, Try.ntmps3
  go_wp2_with (fail)
  go_at_call 9
  refine (Flds.size_any _ _ z0 _ _ HY0.out HW0.out.1 HW0.out.2 (by decide) (by decide)).mono ?_
  rintro e wa ⟨z, rfl, hz, ba⟩
  have HB := Lib.hid ba
  clear ba
  rcases hz with hz | ⟨hz, ht⟩
  · go_wp2
    go_ret
    exact ⟨rfl, HB.out⟩
  have hzn : ¬ z < 0 := by omega
  have hl0 : z0.length ≤ 1048576 := by unfold Flds.total at ht; omega
  have HL0 := Lib.hid hl0
  have HT0 : Hid (Flds.total z0 ≤ 1048576) := Lib.hid (by omega)
  have HY0 := Lib.hid (Flds.holds_below HY0.out HB.out)
  have hs1 := HB.out.size
  clear ht hl0
  go_wp2_with (fail)
  go_at_call 11
  refine (Flds.copy _ _ z0 _ HY0.out HL0.out).mono ?_
  rintro e wc ⟨va, rfl, oa, bc⟩
  have hs2 := bc.size
  have HA := Lib.hid (Flds.own_holds oa)
  have HY0 := Lib.hid (Flds.holds_below HY0.out (bc.mono (by omega)))
  have HB := Lib.hid (Base.then_below HB.out bc)
  clear oa bc
  go_wp2_with (fail)
  go_at_call 10
  refine (Flds.spec_get va _ z0 n _ HA.out (by have := HT0.out; omega)).mono ?_
  rintro e we ⟨rfl, be⟩
  have hs4 := be.size
  have HY0 := Lib.hid (Flds.holds_below HY0.out (be.mono (by omega)))
  have HB := Lib.hid (Base.then_below HB.out be)
  clear be HA
  generalize hq : decide (0 < (Flds.vals n z0).length) = q
  generalize hr : (Tx.join (Flds.vals n z0)) = r
  go_wp2_with (fail)
  go_at_call 11
  refine (Flds.copy _ _ z0 _ HY0.out HL0.out).mono ?_
  rintro e wf ⟨vb, rfl, ob, bf⟩
  have hs5 := bf.size
  have HA := Lib.hid (Flds.own_holds ob)
  have HY0 := Lib.hid (Flds.holds_below HY0.out (bf.mono (by omega)))
  have HB := Lib.hid (Base.then_below HB.out bf)
  clear ob bf
  go_wp2_with (fail)
  go_at_call 12
  refine (Flds.impl_get vb _ z0 n _ HA.out (Nat.le_refl _) HT0.out).mono ?_
  rintro e wg ⟨he, bg⟩
  rw [hq, hr] at he
  subst he
  have hs6 := bg.size
  have HA := Lib.hid (Flds.holds_below HA.out bg)
  have HY0 := Lib.hid (Flds.holds_below HY0.out (bg.mono (by omega)))
  have HB := Lib.hid (Base.then_below HB.out bg)
  clear bg hq hr
  go_wp2_with (fail)
  go_at_call 11
  refine (Flds.copy _ _ z0 _ HY0.out HL0.out).mono ?_
  rintro e wh ⟨vc, rfl, oc, bh⟩
  have hs7 := bh.size
  have HC := Lib.hid (Flds.own_holds oc)
  have HA := Lib.hid (Flds.holds_below HA.out (bh.mono (by omega)))
  have HB := Lib.hid (Base.then_below HB.out bh)
  clear oc bh
  go_wp2_with (fail)
  go_at_call 13
  refine (Flds.eq_same vb vc _ _ z0 _ HA.out HC.out HL0.out).mono ?_
  rintro e wi ⟨rfl, bi⟩
  have HB := Lib.hid (Base.then_below HB.out bi)
  clear bi
  go_wp2
  go_ret
  exact ⟨rfl, HB.out⟩

set_option maxRecDepth 100000 in
theorem lifted (os : Os) (started : os.Started) (H : Type) (enc : TypeId × Value → H) :
    ReturnsInHanded {} Try.checked os 3 .any (Rows.fnExactGetFieldSpec.pre6 enc Try.prog Try.f3 Rows.fnExactGetFieldRow.domain false) (Rows.fnExactGetFieldSpec.post enc Try.prog Try.f3 false true false false) := by
  refine returnsInHanded_of_change (C := Try.checked) own started (by kernel_rfl) Try.func3
    (ChangeSpec.witness6 (enc := enc) (C := Try.checked) false ⟨#[], #[.slice none 0 0, .string ⟨#[]⟩], []⟩ 8 (by kernel_rfl) (by kernel_rfl) (by kernel_rfl) (by kernel_rfl)) ?_
  intro W base args ds gs before hval0 hW hcnd _
  have hval : ∀ (j : Nat) t v, Try.f3.params[j]? = some t → args[j]? = some v → Value.okWide Try.prog W .any base t v := hval0
  have hW' := hW
  obtain ⟨p, q, hA0, hV, rfl, hfz, hnd⟩ := hW
  have hA : DataW.TrodAll enc Try.prog W 0 (fun _ => true) true Try.f3.params.toList args.toList ds p := hA0
  rw [Try.params3] at hA hval
  obtain ⟨v0, vs0, d0, ds0, p0, q0, hargs, rfl, rfl, h0, r0⟩ := trodAll_cons hA
  obtain ⟨v1, vs1, d1, ds1, p1, q1, rfl, rfl, rfl, h1, r1⟩ := trodAll_cons r0
  obtain ⟨rfl, rfl, rfl⟩ := trodAll_nil r1
  obtain rfl : args = #[v0, v1] := by cases args; simp_all
  obtain ⟨rfl, rfl⟩ := trodVars_none hV
  have k0 := h0
  obtain ⟨z0, y0, w01, w02⟩ := Flds.open_arg (hval 0 22 v0 rfl rfl) h0
  have w0 := And.intro w01 w02
  have k1 := h1
  obtain ⟨a1, rfl, rfl, rfl, w1⟩ := Go.ChangeMaps.open_string Try.underlying9 (hval 1 9 v1 rfl rfl) h1
  clear hA0 hval0
  simp only [List.append_nil] at hW'
  refine (walk v0 z0 a1 w0 w1 W y0).mono fun e W' ⟨he, hb⟩ => ?_
  subst he
  exact ⟨_, rfl, ⟨_, _, _, [], _, [], hW', (trodAll_cons_mk (shut_bool Try.underlying4 _) trodAll_mk0), (trodAll_cons_mk (Below.trod laidOut (by kernel_rfl) (of_decide_eq_true (by kernel_rfl)) k0 hb (fun x hx => hW'.lt x (by simp [hx]))) (trodAll_cons_mk (Go.ChangeMaps.shut_string Try.underlying9 w1) trodAll_mk0)), rfl, hb.frame _, fun h => by cases h⟩⟩

theorem over : Rows.fnExactGetFieldRow.holds Try.pinned (OpenSpec.ofChange Rows.fnExactGetFieldSpec) :=
  OpenClaim.holds_of_wide 3 Try.f3 rfl rfl rfl rfl rfl rfl rfl ⟨rfl, rfl, rfl, rfl, rfl⟩ rfl rfl rfl rfl rfl (by kernel_rfl) Try.func3 (by kernel_rfl)
    (of_decide_eq_true (by kernel_rfl)) (by unfold Func.isWrapper; first | (rw [if_pos (by decide +kernel)]; kernel_rfl) | (rw [if_neg (by decide +kernel)]; exact ⟨rfl, rfl⟩))
    (fun os started H enc _ => lifted os started H enc)

/-- The given statement. -/
theorem proved : Rows.FnExactGetFieldSaid :=
  over
#print axioms proved
end Go.Proofs.Ytdnnnkilbflhlaa.fnExactGetField
