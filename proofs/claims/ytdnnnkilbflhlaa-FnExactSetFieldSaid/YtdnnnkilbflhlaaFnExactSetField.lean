/-
  PROVED: at any list of fields and any name and value the program's SetField returns what its model returns, writes into no argument and answers in memory of its own: the exact law of SetField returns true and leaves its arguments as they were. CONDITION: none.
-/
import Derived.Test.YtdnnnkilbflhlaaBase
import Derived.Carry
import Derived.Test.YtdnnnkilbflhlaaFldArg
import Derived.Test.YtdnnnkilbflhlaaFldCopy
import Derived.Test.YtdnnnkilbflhlaaFldEq
import Derived.Test.YtdnnnkilbflhlaaFldMark
import Derived.Test.YtdnnnkilbflhlaaFldSetS
namespace Go.Proofs.Ytdnnnkilbflhlaa.fnExactSetField
open Go.ChangeShapes Go.WideShapes Go.ChangeAt Go.RowKit
set_option linter.unusedVariables false

theorem own : ownKnob Try.prog.godebug = none := by kernel_rfl

theorem laidOut : laidOutB Try.prog = true := by kernel_rfl

set_option maxHeartbeats 2000000 in
theorem walk (v0 : Value) (z0 : List Flds.Fld) (a1 a2 : ByteArray) (w0 : z0.length ≤ maxLen ∧ (∀ f ∈ z0, f.1.length ≤ maxLen ∧ f.2.length ≤ maxLen)) (w1 : a1.size ≤ maxLen) (w2 : a2.size ≤ maxLen) (w : World) (y0 : Flds.Holds w w.heap.size v0 z0) :
    Calls Try.prog 5 #[v0, .string a1, .string a2] w fun e w' => e = .returned (.bool true) ∧ Below w.heap.size w w' := by
  obtain ⟨n, rfl⟩ : ∃ n : List UInt8, a1 = ⟨n.toArray⟩ := ⟨a1.data.toList, rfl⟩
  have hsz : (⟨n.toArray⟩ : ByteArray).size = n.length := by simp [ByteArray.size]
  have hnl : n.length ≤ 9223372036854775807 := by rw [hsz] at w1; exact w1
  obtain ⟨u, rfl⟩ : ∃ n : List UInt8, a2 = ⟨n.toArray⟩ := ⟨a2.data.toList, rfl⟩
  have hsz2 : (⟨u.toArray⟩ : ByteArray).size = u.length := by simp [ByteArray.size]
  have hul : u.length ≤ 9223372036854775807 := by rw [hsz2] at w2; exact w2
  have HW0 := Lib.hid w0
  have HY0 := Lib.hid y0
  clear w0 y0 w1 w2
  by_cases hbig : n.length ≤ 1048576
  case neg =>
    go_enter Try.func5, Try.ntmps5
    go_wp2
    go_ret
    exact ⟨rfl, Below.refl _ _⟩
  by_cases hbig2 : u.length ≤ 1048576
  case neg =>
    go_enter Try.func5, Try.ntmps5
    go_wp2
    go_ret
    exact ⟨rfl, Below.refl _ _⟩
  have HB := Lib.hid (Below.refl w.heap.size w)
  go_enter Try.func5, Try.ntmps5
  go_wp2_with (fail)
  go_at_call 9
  refine (Flds.size_any _ _ z0 _ _ HY0.out HW0.out.1 HW0.out.2 (by decide) (by decide)).mono ?_
  rintro e x1 ⟨z, rfl, hz, b1⟩
  have hs1 := b1.size
  have HY0 := Lib.hid (Flds.holds_below HY0.out (b1.mono (by omega)))
  have HB := Lib.hid (Base.then_below HB.out b1)
  clear b1
  rcases hz with hz | ⟨hz, ht⟩
  · go_wp2
    go_ret
    exact ⟨rfl, HB.out⟩
  have hzn : ¬ z < 0 := by omega
  have hl0 : z0.length ≤ 1048576 := by unfold Flds.total at ht; omega
  have HL0 := Lib.hid hl0
  have HK : Hid ((Flds.fin n u z0).length ≤ 4194304) := Lib.hid (by have := Flds.fin_len n u z0; omega)
  clear ht hl0
  go_wp2_with (fail)
  go_at_call 11
  refine (Flds.copy _ _ z0 _ HY0.out HL0.out).mono ?_
  rintro e x2 ⟨vA, rfl, oA, b2⟩
  have hs2 := b2.size
  have HY0 := Lib.hid (Flds.holds_below HY0.out (b2.mono (by omega)))
  have HB := Lib.hid (Base.then_below HB.out b2)
  clear b2
  have HA := Lib.hid (Flds.own_holds oA)
  clear oA
  go_wp2_with (fail)
  go_at_call 18
  refine (Flds.spec_set vA _ z0 n u _ HA.out (by omega) HL0.out).mono ?_
  rintro e x3 ⟨vW, rfl, oW, b3⟩
  have hs3 := b3.size
  have HY0 := Lib.hid (Flds.holds_below HY0.out (b3.mono (by omega)))
  have HB := Lib.hid (Base.then_below HB.out b3)
  clear b3
  have HW := Lib.hid (Flds.own_holds oW)
  clear oW
  go_wp2_with (fail)
  go_at_call 11
  refine (Flds.copy _ _ z0 _ HY0.out HL0.out).mono ?_
  rintro e x4 ⟨vX, rfl, oX, b4⟩
  have hs4 := b4.size
  have HY0 := Lib.hid (Flds.holds_below HY0.out (b4.mono (by omega)))
  have HW := Lib.hid (Flds.holds_below HW.out (b4.mono (by omega)))
  have HB := Lib.hid (Base.then_below HB.out b4)
  clear b4
  have HX := Lib.hid (oX)
  clear oX
  go_wp2_with (fail)
  go_at_call 19
  refine (Flds.impl_set vX _ z0 n u _ (Flds.own_holds HX.out) (Nat.le_refl _) HL0.out).mono ?_
  rintro e x5 ⟨vG, rfl, oG, b5⟩
  have hs5 := b5.size
  have HNE : Hid (∀ g, vG.ownBlock = some g → some g ≠ vX.ownBlock) := Lib.hid (fun g hg hx => by have q1 := (oG.lt g hg).1; have q2 := (HX.out.lt g hx.symm).2; omega)
  have HNE2 : Hid (∀ g, vX.ownBlock = some g → some g ≠ vG.ownBlock) := Lib.hid (fun g hg hx => by have q1 := (oG.lt g hx.symm).1; have q2 := (HX.out.lt g hg).2; omega)
  have HY0 := Lib.hid (Flds.holds_below HY0.out (b5.mono (by omega)))
  have HW := Lib.hid (Flds.holds_below HW.out (b5.mono (by omega)))
  have HX := Lib.hid (Flds.row_below HX.out b5)
  have HB := Lib.hid (Base.then_below HB.out b5)
  clear b5
  have HG := Lib.hid oG
  clear oG
  go_wp2_with (fail)
  go_at_call 13
  refine (Flds.eq_wide vG vW _ _ (Flds.fin n u z0) _ (Flds.own_holds HG.out) HW.out HK.out).mono ?_
  rintro e x6 ⟨rfl, b6⟩
  have hs6 := b6.size
  have HY0 := Lib.hid (Flds.holds_below HY0.out (b6.mono (by omega)))
  have HW := Lib.hid (Flds.holds_below HW.out (b6.mono (by omega)))
  have HX := Lib.hid (Flds.row_below HX.out b6)
  have HG := Lib.hid (Flds.row_below HG.out b6)
  have HB := Lib.hid (Base.then_below HB.out b6)
  clear b6
  go_wp2_with (fail)
  go_at_call 11
  refine (Flds.copy _ _ z0 _ HY0.out HL0.out).mono ?_
  rintro e x7 ⟨vC, rfl, oC, b7⟩
  have hs7 := b7.size
  have HY0 := Lib.hid (Flds.holds_below HY0.out (b7.mono (by omega)))
  have HW := Lib.hid (Flds.holds_below HW.out (b7.mono (by omega)))
  have HX := Lib.hid (Flds.row_below HX.out b7)
  have HG := Lib.hid (Flds.row_below HG.out b7)
  have HB := Lib.hid (Base.then_below HB.out b7)
  clear b7
  have HC := Lib.hid (Flds.own_holds oC)
  clear oC
  go_wp2_with (fail)
  go_at_call 13
  refine (Flds.eq_same vX vC _ _ z0 _ (Flds.own_holds HX.out) HC.out HL0.out).mono ?_
  rintro e x8 ⟨rfl, b8⟩
  have hs8 := b8.size
  have HY0 := Lib.hid (Flds.holds_below HY0.out (b8.mono (by omega)))
  have HW := Lib.hid (Flds.holds_below HW.out (b8.mono (by omega)))
  have HX := Lib.hid (Flds.row_below HX.out b8)
  have HG := Lib.hid (Flds.row_below HG.out b8)
  have HB := Lib.hid (Base.then_below HB.out b8)
  clear b8
  go_wp2_with (fail)
  go_at_call 16
  refine (Flds.mark_flds _ vX (z0) 1 _ HX.out (by omega) (by omega) (by have := HL0.out; omega)).mono ?_
  rintro e x9 ⟨rfl, oX, g9⟩
  have hs9 := g9.size
  have HR : Hid (∀ k, vX.ownBlock = some k → x3.heap.size ≤ k) := Lib.hid (fun k e => (HX.out.lt k e).1)
  have HY0 := Lib.hid (Flds.holds_grown HY0.out g9 (fun k e => by have := HR.out k e; omega))
  have HW := Lib.hid (Flds.holds_grown HW.out g9 (fun k e => by have := HR.out k e; omega))
  have HG := Lib.hid (Flds.row_grown HG.out g9 HNE.out)
  have HB := Lib.hid (HB.out.grown g9 HB.out.size (fun k e => by have := HR.out k e; omega))
  have HX := Lib.hid oX
  clear oX g9 HR
  have hk1 : ¬ ((1 + z0.length * 2 : Nat) : Int) < 0 := by omega
  go_wp2_with (fail)
  go_at_call 13
  refine (Flds.eq_wide vG vW _ _ (Flds.fin n u z0) _ (Flds.own_holds HG.out) HW.out HK.out).mono ?_
  rintro e x10 ⟨rfl, b10⟩
  have hs10 := b10.size
  have HY0 := Lib.hid (Flds.holds_below HY0.out (b10.mono (by omega)))
  have HW := Lib.hid (Flds.holds_below HW.out (b10.mono (by omega)))
  have HG := Lib.hid (Flds.row_below HG.out b10)
  have HB := Lib.hid (Base.then_below HB.out b10)
  clear b10
  go_wp2_with (fail)
  go_at_call 16
  refine (Flds.mark_flds _ vG (Flds.fin n u z0) 1 _ HG.out (by omega) (by omega) (by have := HK.out; omega)).mono ?_
  rintro e x11 ⟨rfl, oG, g11⟩
  have hs11 := g11.size
  have HR : Hid (∀ k, vG.ownBlock = some k → x4.heap.size ≤ k) := Lib.hid (fun k e => (HG.out.lt k e).1)
  have HY0 := Lib.hid (Flds.holds_grown HY0.out g11 (fun k e => by have := HR.out k e; omega))
  have HW := Lib.hid (Flds.holds_grown HW.out g11 (fun k e => by have := HR.out k e; omega))
  have HB := Lib.hid (HB.out.grown g11 HB.out.size (fun k e => by have := HR.out k e; omega))
  have HG := Lib.hid oG
  clear oG g11 HR
  have hk2 : ¬ ((1 + (Flds.fin n u z0).length * 2 : Nat) : Int) < 0 := by omega
  go_wp2_with (fail)
  go_at_call 17
  refine (Flds.held_flds _ vG 1 (Flds.fin n u z0).length _ (Flds.own_holds HG.out) (by omega) (by have := HK.out; omega)).mono ?_
  rintro e x12 ⟨rfl, b12⟩
  have hs12 := b12.size
  have HY0 := Lib.hid (Flds.holds_below HY0.out (b12.mono (by omega)))
  have HW := Lib.hid (Flds.holds_below HW.out (b12.mono (by omega)))
  have HG := Lib.hid (Flds.row_below HG.out b12)
  have HB := Lib.hid (Base.then_below HB.out b12)
  clear b12
  go_wp2_with (fail)
  go_at_call 11
  refine (Flds.copy _ _ z0 _ HY0.out HL0.out).mono ?_
  rintro e x13 ⟨vD, rfl, oD, b13⟩
  have hs13 := b13.size
  have HY0 := Lib.hid (Flds.holds_below HY0.out (b13.mono (by omega)))
  have HW := Lib.hid (Flds.holds_below HW.out (b13.mono (by omega)))
  have HG := Lib.hid (Flds.row_below HG.out b13)
  have HB := Lib.hid (Base.then_below HB.out b13)
  clear b13
  have HD := Lib.hid (Flds.own_holds oD)
  clear oD
  go_wp2_with (fail)
  go_at_call 19
  refine (Flds.impl_set vD _ z0 n u _ HD.out (Nat.le_refl _) HL0.out).mono ?_
  rintro e x14 ⟨vH, rfl, oH, b14⟩
  have hs14 := b14.size
  have HW := Lib.hid (Flds.holds_below HW.out (b14.mono (by omega)))
  have HG := Lib.hid (Flds.row_below HG.out b14)
  have HB := Lib.hid (Base.then_below HB.out b14)
  clear b14
  have HH := Lib.hid (Flds.own_holds oH)
  clear oH
  go_wp2_with (fail)
  go_at_call 13
  refine (Flds.eq_wide vH vW _ _ (Flds.fin n u z0) _ HH.out HW.out HK.out).mono ?_
  rintro e x15 ⟨rfl, b15⟩
  have hs15 := b15.size
  have HG := Lib.hid (Flds.row_below HG.out b15)
  have HB := Lib.hid (Base.then_below HB.out b15)
  clear b15
  go_wp2_with (fail)
  go_at_call 17
  refine (Flds.held_flds _ vG 1 (Flds.fin n u z0).length _ (Flds.own_holds HG.out) (by omega) (by have := HK.out; omega)).mono ?_
  rintro e x16 ⟨rfl, b16⟩
  have hs16 := b16.size
  have HG := Lib.hid (Flds.row_below HG.out b16)
  have HB := Lib.hid (Base.then_below HB.out b16)
  clear b16
  go_wp2
  go_ret
  exact ⟨rfl, HB.out⟩

set_option maxRecDepth 100000 in
theorem lifted (os : Os) (started : os.Started) (H : Type) (enc : TypeId × Value → H) :
    ReturnsInHanded {} Try.checked os 5 .any (Rows.fnExactSetFieldSpec.pre6 enc Try.prog Try.f5 Rows.fnExactSetFieldRow.domain false) (Rows.fnExactSetFieldSpec.post enc Try.prog Try.f5 false true false false) := by
  refine returnsInHanded_of_change (C := Try.checked) own started (by kernel_rfl) Try.func5
    (ChangeSpec.witness6 (enc := enc) (C := Try.checked) false ⟨#[], #[.slice none 0 0, .string ⟨#[]⟩, .string ⟨#[]⟩], []⟩ 8 (by kernel_rfl) (by kernel_rfl) (by kernel_rfl) (by kernel_rfl)) ?_
  intro W base args ds gs before hval0 hW hcnd _
  have hval : ∀ (j : Nat) t v, Try.f5.params[j]? = some t → args[j]? = some v → Value.okWide Try.prog W .any base t v := hval0
  have hW' := hW
  obtain ⟨p, q, hA0, hV, rfl, hfz, hnd⟩ := hW
  have hA : DataW.TrodAll enc Try.prog W 0 (fun _ => true) true Try.f5.params.toList args.toList ds p := hA0
  rw [Try.params5] at hA hval
  obtain ⟨v0, vs0, d0, ds0, p0, q0, hargs, rfl, rfl, h0, r0⟩ := trodAll_cons hA
  obtain ⟨v1, vs1, d1, ds1, p1, q1, rfl, rfl, rfl, h1, r1⟩ := trodAll_cons r0
  obtain ⟨v2, vs2, d2, ds2, p2, q2, rfl, rfl, rfl, h2, r2⟩ := trodAll_cons r1
  obtain ⟨rfl, rfl, rfl⟩ := trodAll_nil r2
  obtain rfl : args = #[v0, v1, v2] := by cases args; simp_all
  obtain ⟨rfl, rfl⟩ := trodVars_none hV
  have k0 := h0
  obtain ⟨z0, y0, w01, w02⟩ := Flds.open_arg (hval 0 22 v0 rfl rfl) h0
  have w0 := And.intro w01 w02
  have k1 := h1
  obtain ⟨a1, rfl, rfl, rfl, w1⟩ := Go.ChangeMaps.open_string Try.underlying9 (hval 1 9 v1 rfl rfl) h1
  have k2 := h2
  obtain ⟨a2, rfl, rfl, rfl, w2⟩ := Go.ChangeMaps.open_string Try.underlying9 (hval 2 9 v2 rfl rfl) h2
  clear hA0 hval0
  simp only [List.append_nil] at hW'
  refine (walk v0 z0 a1 a2 w0 w1 w2 W y0).mono fun e W' ⟨he, hb⟩ => ?_
  subst he
  exact ⟨_, rfl, ⟨_, _, _, [], _, [], hW', (trodAll_cons_mk (shut_bool Try.underlying4 _) trodAll_mk0), (trodAll_cons_mk (Below.trod laidOut (by kernel_rfl) (of_decide_eq_true (by kernel_rfl)) k0 hb (fun x hx => hW'.lt x (by simp [hx]))) (trodAll_cons_mk (Go.ChangeMaps.shut_string Try.underlying9 w1) (trodAll_cons_mk (Go.ChangeMaps.shut_string Try.underlying9 w2) trodAll_mk0))), rfl, hb.frame _, fun h => by cases h⟩⟩

theorem over : Rows.fnExactSetFieldRow.holds Try.pinned (OpenSpec.ofChange Rows.fnExactSetFieldSpec) :=
  OpenClaim.holds_of_wide 5 Try.f5 rfl rfl rfl rfl rfl rfl rfl ⟨rfl, rfl, rfl, rfl, rfl⟩ rfl rfl rfl rfl rfl (by kernel_rfl) Try.func5 (by kernel_rfl)
    (of_decide_eq_true (by kernel_rfl)) (by unfold Func.isWrapper; first | (rw [if_pos (by decide +kernel)]; kernel_rfl) | (rw [if_neg (by decide +kernel)]; exact ⟨rfl, rfl⟩))
    (fun os started H enc _ => lifted os started H enc)

/-- The given statement. -/
theorem proved : Rows.FnExactSetFieldSaid :=
  over
#print axioms proved
end Go.Proofs.Ytdnnnkilbflhlaa.fnExactSetField
