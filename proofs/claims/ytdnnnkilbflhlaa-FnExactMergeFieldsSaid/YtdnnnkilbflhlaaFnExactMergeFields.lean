/-
  PROVED: at any two lists of fields the program's MergeFields returns what its model returns, writes into no argument and answers in memory of its own: the exact law of MergeFields returns true and leaves its arguments as they were. CONDITION: none.
-/
import Derived.Test.YtdnnnkilbflhlaaBase
import Derived.Carry
import Derived.Test.YtdnnnkilbflhlaaFldArg
import Derived.Test.YtdnnnkilbflhlaaFldCopy
import Derived.Test.YtdnnnkilbflhlaaFldEq
import Derived.Test.YtdnnnkilbflhlaaFldMark
import Derived.Test.YtdnnnkilbflhlaaFldMrg
namespace Go.Proofs.Ytdnnnkilbflhlaa.fnExactMergeFields
open Go.ChangeShapes Go.WideShapes Go.ChangeAt Go.RowKit
set_option linter.unusedVariables false

theorem own : ownKnob Try.prog.godebug = none := by kernel_rfl

theorem laidOut : laidOutB Try.prog = true := by kernel_rfl

set_option maxHeartbeats 4000000 in
theorem walk (v0 : Value) (z0 : List Flds.Fld) (v1 : Value) (z1 : List Flds.Fld) (w0 : z0.length ≤ maxLen ∧ (∀ f ∈ z0, f.1.length ≤ maxLen ∧ f.2.length ≤ maxLen)) (w1 : z1.length ≤ maxLen ∧ (∀ f ∈ z1, f.1.length ≤ maxLen ∧ f.2.length ≤ maxLen)) (w : World) (y0 : Flds.Holds w w.heap.size v0 z0) (y1 : Flds.Holds w w.heap.size v1 z1) :
    Calls Try.prog 7 #[v0, v1] w fun e w' => e = .returned (.bool true) ∧ Below w.heap.size w w' := by
  have HW0 := Lib.hid w0
  have HW1 := Lib.hid w1
  have HY0 := Lib.hid y0
  have HY1 := Lib.hid y1
  clear w0 w1 y0 y1
  have HB := Lib.hid (Below.refl w.heap.size w)
  go_enter Try.func7, Try.ntmps7
  go_wp2_with (fail)
  go_at_call 9
  refine (Flds.size_any _ _ z0 _ _ HY0.out HW0.out.1 HW0.out.2 (by decide) (by decide)).mono ?_
  rintro e x1 ⟨z, rfl, hz, b1⟩
  have hs1 := b1.size
  have HY0 := Lib.hid (Flds.holds_below HY0.out (b1.mono (by omega)))
  have HY1 := Lib.hid (Flds.holds_below HY1.out (b1.mono (by omega)))
  have HB := Lib.hid (Base.then_below HB.out b1)
  clear b1
  rcases hz with hz | ⟨hz, ht⟩
  · go_wp2
    go_ret
    exact ⟨rfl, HB.out⟩
  have hzn : ¬ z < 0 := by omega
  have HZ : Hid (z + Flds.total z0 = 1048576) := Lib.hid ht
  clear ht
  go_wp2_with (fail)
  go_at_call 9
  refine (Flds.size_any _ _ z1 z _ HY1.out HW1.out.1 HW1.out.2 hz (by have := HZ.out; omega)).mono ?_
  rintro e x2 ⟨y, rfl, hy, b2⟩
  have hs2 := b2.size
  have HY0 := Lib.hid (Flds.holds_below HY0.out (b2.mono (by omega)))
  have HY1 := Lib.hid (Flds.holds_below HY1.out (b2.mono (by omega)))
  have HB := Lib.hid (Base.then_below HB.out b2)
  clear b2
  rcases hy with hy | ⟨hy, ht⟩
  · go_wp2
    go_ret
    exact ⟨rfl, HB.out⟩
  have hyn : ¬ y < 0 := by omega
  have hsum : Flds.total z0 + Flds.total z1 ≤ 1048576 := by have := HZ.out; omega
  have hq0 : z0.length ≤ Flds.total z0 := by unfold Flds.total; omega
  have hq1 : z1.length ≤ Flds.total z1 := by unfold Flds.total; omega
  have HL0 : Hid (z0.length ≤ 1048576) := Lib.hid (by omega)
  have HL1 : Hid (z1.length ≤ 1048576) := Lib.hid (by omega)
  have HT1 : Hid (Flds.total z1 ≤ 1048576) := Lib.hid (by omega)
  have HK : Hid ((Flds.merged z0 z1).length ≤ 1048576) := Lib.hid (by have := Flds.keepm_le z1 z0; unfold Flds.merged; rw [List.length_append]; omega)
  clear ht hsum hq0 hq1
  go_wp2_with (fail)
  go_at_call 11
  refine (Flds.copy _ _ z0 _ HY0.out HL0.out).mono ?_
  rintro e x3 ⟨vA, rfl, oA, b3⟩
  have hs3 := b3.size
  have HY0 := Lib.hid (Flds.holds_below HY0.out (b3.mono (by omega)))
  have HY1 := Lib.hid (Flds.holds_below HY1.out (b3.mono (by omega)))
  have HB := Lib.hid (Base.then_below HB.out b3)
  clear b3
  have HA := Lib.hid (Flds.own_holds oA)
  clear oA
  go_wp2_with (fail)
  go_at_call 11
  refine (Flds.copy' _ _ z1 _ HY1.out HL1.out).mono ?_
  rintro e x4 ⟨vN, rfl, oN, b4, ⟨iN, cN, eN⟩⟩
  have hs4 := b4.size
  have EN := Lib.hid eN
  clear eN
  have HY0 := Lib.hid (Flds.holds_below HY0.out (b4.mono (by omega)))
  have HY1 := Lib.hid (Flds.holds_below HY1.out (b4.mono (by omega)))
  have HA := Lib.hid (Flds.holds_below HA.out (b4.mono (by omega)))
  have HB := Lib.hid (Base.then_below HB.out b4)
  clear b4
  have HN := Lib.hid (oN)
  clear oN
  go_wp2_with (fail)
  go_at_call 22
  refine (Flds.spec_merge vA vN _ iN cN z0 z1 _ HA.out (by omega) EN.out (Flds.own_mono HN.out (Nat.zero_le _)) HL0.out HT1.out).mono ?_
  rintro e x5 ⟨vW, rfl, oW, b5⟩
  have hs5 := b5.size
  have HY0 := Lib.hid (Flds.holds_below HY0.out (b5.mono (by omega)))
  have HY1 := Lib.hid (Flds.holds_below HY1.out (b5.mono (by omega)))
  have HB := Lib.hid (Base.then_below HB.out b5)
  clear b5
  have HW := Lib.hid (Flds.own_holds oW)
  clear oW
  go_wp2_with (fail)
  go_at_call 11
  refine (Flds.copy _ _ z0 _ HY0.out HL0.out).mono ?_
  rintro e x6 ⟨vX, rfl, oX, b6⟩
  have hs6 := b6.size
  have HY0 := Lib.hid (Flds.holds_below HY0.out (b6.mono (by omega)))
  have HY1 := Lib.hid (Flds.holds_below HY1.out (b6.mono (by omega)))
  have HW := Lib.hid (Flds.holds_below HW.out (b6.mono (by omega)))
  have HB := Lib.hid (Base.then_below HB.out b6)
  clear b6
  have HX := Lib.hid (oX)
  clear oX
  go_wp2_with (fail)
  go_at_call 11
  refine (Flds.copy' _ _ z1 _ HY1.out HL1.out).mono ?_
  rintro e x7 ⟨vY, rfl, oY, b7, ⟨iY, cY, eY⟩⟩
  have hs7 := b7.size
  have EY := Lib.hid eY
  clear eY
  have NYX : Hid (∀ g, vY.ownBlock = some g → some g ≠ vX.ownBlock) := Lib.hid (fun g hg hx => by have q1 := (oY.lt g hg).1; have q2 := (HX.out.lt g hx.symm).2; omega)
  have NXY : Hid (∀ g, vX.ownBlock = some g → some g ≠ vY.ownBlock) := Lib.hid (fun g hg hx => by have q1 := (oY.lt g hx.symm).1; have q2 := (HX.out.lt g hg).2; omega)
  have HY0 := Lib.hid (Flds.holds_below HY0.out (b7.mono (by omega)))
  have HY1 := Lib.hid (Flds.holds_below HY1.out (b7.mono (by omega)))
  have HW := Lib.hid (Flds.holds_below HW.out (b7.mono (by omega)))
  have HX := Lib.hid (Flds.row_below HX.out b7)
  have HB := Lib.hid (Base.then_below HB.out b7)
  clear b7
  have HY := Lib.hid oY
  clear oY
  go_wp2_with (fail)
  go_at_call 23
  refine (Flds.impl_merge vX vY _ iY cY z0 z1 _ (Flds.own_holds HX.out) (Nat.le_refl _) EY.out (Flds.own_mono HY.out (Nat.zero_le _)) HL0.out HL1.out).mono ?_
  rintro e x8 ⟨vG, rfl, oG, b8⟩
  have hs8 := b8.size
  have NGX : Hid (∀ g, vG.ownBlock = some g → some g ≠ vX.ownBlock) := Lib.hid (fun g hg hx => by have q1 := (oG.lt g hg).1; have q2 := (HX.out.lt g hx.symm).2; omega)
  have NXG : Hid (∀ g, vX.ownBlock = some g → some g ≠ vG.ownBlock) := Lib.hid (fun g hg hx => by have q1 := (oG.lt g hx.symm).1; have q2 := (HX.out.lt g hg).2; omega)
  have NGY : Hid (∀ g, vG.ownBlock = some g → some g ≠ vY.ownBlock) := Lib.hid (fun g hg hx => by have q1 := (oG.lt g hg).1; have q2 := (HY.out.lt g hx.symm).2; omega)
  have NYG : Hid (∀ g, vY.ownBlock = some g → some g ≠ vG.ownBlock) := Lib.hid (fun g hg hx => by have q1 := (oG.lt g hx.symm).1; have q2 := (HY.out.lt g hg).2; omega)
  have HY0 := Lib.hid (Flds.holds_below HY0.out (b8.mono (by omega)))
  have HY1 := Lib.hid (Flds.holds_below HY1.out (b8.mono (by omega)))
  have HW := Lib.hid (Flds.holds_below HW.out (b8.mono (by omega)))
  have HX := Lib.hid (Flds.row_below HX.out b8)
  have HY := Lib.hid (Flds.row_below HY.out b8)
  have HB := Lib.hid (Base.then_below HB.out b8)
  clear b8
  have HG := Lib.hid oG
  clear oG
  go_wp2_with (fail)
  go_at_call 13
  refine (Flds.eq_same vG vW _ _ (Flds.merged z0 z1) _ (Flds.own_holds HG.out) HW.out HK.out).mono ?_
  rintro e x9 ⟨rfl, b9⟩
  have hs9 := b9.size
  have HY0 := Lib.hid (Flds.holds_below HY0.out (b9.mono (by omega)))
  have HY1 := Lib.hid (Flds.holds_below HY1.out (b9.mono (by omega)))
  have HW := Lib.hid (Flds.holds_below HW.out (b9.mono (by omega)))
  have HX := Lib.hid (Flds.row_below HX.out b9)
  have HY := Lib.hid (Flds.row_below HY.out b9)
  have HG := Lib.hid (Flds.row_below HG.out b9)
  have HB := Lib.hid (Base.then_below HB.out b9)
  clear b9
  go_wp2_with (fail)
  go_at_call 11
  refine (Flds.copy _ _ z0 _ HY0.out HL0.out).mono ?_
  rintro e x10 ⟨vC, rfl, oC, b10⟩
  have hs10 := b10.size
  have HY0 := Lib.hid (Flds.holds_below HY0.out (b10.mono (by omega)))
  have HY1 := Lib.hid (Flds.holds_below HY1.out (b10.mono (by omega)))
  have HW := Lib.hid (Flds.holds_below HW.out (b10.mono (by omega)))
  have HX := Lib.hid (Flds.row_below HX.out b10)
  have HY := Lib.hid (Flds.row_below HY.out b10)
  have HG := Lib.hid (Flds.row_below HG.out b10)
  have HB := Lib.hid (Base.then_below HB.out b10)
  clear b10
  have HC := Lib.hid (Flds.own_holds oC)
  clear oC
  go_wp2_with (fail)
  go_at_call 13
  refine (Flds.eq_same vX vC _ _ z0 _ (Flds.own_holds HX.out) HC.out HL0.out).mono ?_
  rintro e x11 ⟨rfl, b11⟩
  have hs11 := b11.size
  have HY0 := Lib.hid (Flds.holds_below HY0.out (b11.mono (by omega)))
  have HY1 := Lib.hid (Flds.holds_below HY1.out (b11.mono (by omega)))
  have HW := Lib.hid (Flds.holds_below HW.out (b11.mono (by omega)))
  have HX := Lib.hid (Flds.row_below HX.out b11)
  have HY := Lib.hid (Flds.row_below HY.out b11)
  have HG := Lib.hid (Flds.row_below HG.out b11)
  have HB := Lib.hid (Base.then_below HB.out b11)
  clear b11
  go_wp2_with (fail)
  go_at_call 11
  refine (Flds.copy _ _ z1 _ HY1.out HL1.out).mono ?_
  rintro e x12 ⟨vD, rfl, oD, b12⟩
  have hs12 := b12.size
  have HY0 := Lib.hid (Flds.holds_below HY0.out (b12.mono (by omega)))
  have HY1 := Lib.hid (Flds.holds_below HY1.out (b12.mono (by omega)))
  have HW := Lib.hid (Flds.holds_below HW.out (b12.mono (by omega)))
  have HX := Lib.hid (Flds.row_below HX.out b12)
  have HY := Lib.hid (Flds.row_below HY.out b12)
  have HG := Lib.hid (Flds.row_below HG.out b12)
  have HB := Lib.hid (Base.then_below HB.out b12)
  clear b12
  have HD := Lib.hid (Flds.own_holds oD)
  clear oD
  go_wp2_with (fail)
  go_at_call 13
  refine (Flds.eq_same vY vD _ _ z1 _ (Flds.own_holds HY.out) HD.out HL1.out).mono ?_
  rintro e x13 ⟨rfl, b13⟩
  have hs13 := b13.size
  have HY0 := Lib.hid (Flds.holds_below HY0.out (b13.mono (by omega)))
  have HY1 := Lib.hid (Flds.holds_below HY1.out (b13.mono (by omega)))
  have HW := Lib.hid (Flds.holds_below HW.out (b13.mono (by omega)))
  have HX := Lib.hid (Flds.row_below HX.out b13)
  have HY := Lib.hid (Flds.row_below HY.out b13)
  have HG := Lib.hid (Flds.row_below HG.out b13)
  have HB := Lib.hid (Base.then_below HB.out b13)
  clear b13
  go_wp2_with (fail)
  go_at_call 16
  refine (Flds.mark_flds _ vX (z0) 1 _ HX.out (by omega) (by omega) (by have := HL0.out; omega)).mono ?_
  rintro e x14 ⟨rfl, oX, g14⟩
  have hs14 := g14.size
  have HR : Hid (∀ k, vX.ownBlock = some k → x5.heap.size ≤ k) := Lib.hid (fun k e => (HX.out.lt k e).1)
  have HY0 := Lib.hid (Flds.holds_grown HY0.out g14 (fun k e => by have := HR.out k e; omega))
  have HY1 := Lib.hid (Flds.holds_grown HY1.out g14 (fun k e => by have := HR.out k e; omega))
  have HW := Lib.hid (Flds.holds_grown HW.out g14 (fun k e => by have := HR.out k e; omega))
  have HY := Lib.hid (Flds.row_grown HY.out g14 NYX.out)
  have HG := Lib.hid (Flds.row_grown HG.out g14 NGX.out)
  have HB := Lib.hid (HB.out.grown g14 HB.out.size (fun k e => by have := HR.out k e; omega))
  have HX := Lib.hid oX
  clear oX g14 HR
  go_wp2_with (fail)
  go_at_call 16
  refine (Flds.mark_flds _ vY (z1) (1 + z0.length * 2) _ HY.out (by omega) (by omega) (by have := HL0.out; have := HL1.out; omega)).mono ?_
  rintro e x15 ⟨rfl, oY, g15⟩
  have hs15 := g15.size
  have HR : Hid (∀ k, vY.ownBlock = some k → x6.heap.size ≤ k) := Lib.hid (fun k e => (HY.out.lt k e).1)
  have HY0 := Lib.hid (Flds.holds_grown HY0.out g15 (fun k e => by have := HR.out k e; omega))
  have HY1 := Lib.hid (Flds.holds_grown HY1.out g15 (fun k e => by have := HR.out k e; omega))
  have HW := Lib.hid (Flds.holds_grown HW.out g15 (fun k e => by have := HR.out k e; omega))
  have HG := Lib.hid (Flds.row_grown HG.out g15 NGY.out)
  have HB := Lib.hid (HB.out.grown g15 HB.out.size (fun k e => by have := HR.out k e; omega))
  have HY := Lib.hid oY
  clear oY g15 HR
  have hk1 : ¬ ((1 + z0.length * 2 + z1.length * 2 : Nat) : Int) < 0 := by omega
  go_wp2_with (fail)
  go_at_call 13
  refine (Flds.eq_same vG vW _ _ (Flds.merged z0 z1) _ (Flds.own_holds HG.out) HW.out HK.out).mono ?_
  rintro e x16 ⟨rfl, b16⟩
  have hs16 := b16.size
  have HY0 := Lib.hid (Flds.holds_below HY0.out (b16.mono (by omega)))
  have HY1 := Lib.hid (Flds.holds_below HY1.out (b16.mono (by omega)))
  have HW := Lib.hid (Flds.holds_below HW.out (b16.mono (by omega)))
  have HG := Lib.hid (Flds.row_below HG.out b16)
  have HB := Lib.hid (Base.then_below HB.out b16)
  clear b16
  go_wp2_with (fail)
  go_at_call 16
  refine (Flds.mark_flds _ vG ((Flds.merged z0 z1)) 1 _ HG.out (by omega) (by omega) (by have := HK.out; omega)).mono ?_
  rintro e x17 ⟨rfl, oG, g17⟩
  have hs17 := g17.size
  have HR : Hid (∀ k, vG.ownBlock = some k → x7.heap.size ≤ k) := Lib.hid (fun k e => (HG.out.lt k e).1)
  have HY0 := Lib.hid (Flds.holds_grown HY0.out g17 (fun k e => by have := HR.out k e; omega))
  have HY1 := Lib.hid (Flds.holds_grown HY1.out g17 (fun k e => by have := HR.out k e; omega))
  have HW := Lib.hid (Flds.holds_grown HW.out g17 (fun k e => by have := HR.out k e; omega))
  have HB := Lib.hid (HB.out.grown g17 HB.out.size (fun k e => by have := HR.out k e; omega))
  have HG := Lib.hid oG
  clear oG g17 HR
  have hk2 : ¬ ((1 + (Flds.merged z0 z1).length * 2 : Nat) : Int) < 0 := by omega
  go_wp2_with (fail)
  go_at_call 17
  refine (Flds.held_flds _ vG 1 (Flds.merged z0 z1).length _ (Flds.own_holds HG.out) (by omega) (by have := HK.out; omega)).mono ?_
  rintro e x18 ⟨rfl, b18⟩
  have hs18 := b18.size
  have HY0 := Lib.hid (Flds.holds_below HY0.out (b18.mono (by omega)))
  have HY1 := Lib.hid (Flds.holds_below HY1.out (b18.mono (by omega)))
  have HW := Lib.hid (Flds.holds_below HW.out (b18.mono (by omega)))
  have HG := Lib.hid (Flds.row_below HG.out b18)
  have HB := Lib.hid (Base.then_below HB.out b18)
  clear b18
  go_wp2_with (fail)
  go_at_call 11
  refine (Flds.copy _ _ z0 _ HY0.out HL0.out).mono ?_
  rintro e x19 ⟨vP, rfl, oP, b19⟩
  have hs19 := b19.size
  have HY0 := Lib.hid (Flds.holds_below HY0.out (b19.mono (by omega)))
  have HY1 := Lib.hid (Flds.holds_below HY1.out (b19.mono (by omega)))
  have HW := Lib.hid (Flds.holds_below HW.out (b19.mono (by omega)))
  have HG := Lib.hid (Flds.row_below HG.out b19)
  have HB := Lib.hid (Base.then_below HB.out b19)
  clear b19
  have HP := Lib.hid (Flds.own_holds oP)
  clear oP
  go_wp2_with (fail)
  go_at_call 11
  refine (Flds.copy' _ _ z1 _ HY1.out HL1.out).mono ?_
  rintro e x20 ⟨vQ, rfl, oQ, b20, ⟨iQ, cQ, eQ⟩⟩
  have hs20 := b20.size
  have EQ := Lib.hid eQ
  clear eQ
  have HY0 := Lib.hid (Flds.holds_below HY0.out (b20.mono (by omega)))
  have HY1 := Lib.hid (Flds.holds_below HY1.out (b20.mono (by omega)))
  have HW := Lib.hid (Flds.holds_below HW.out (b20.mono (by omega)))
  have HG := Lib.hid (Flds.row_below HG.out b20)
  have HP := Lib.hid (Flds.holds_below HP.out (b20.mono (by omega)))
  have HB := Lib.hid (Base.then_below HB.out b20)
  clear b20
  have HQ := Lib.hid (oQ)
  clear oQ
  go_wp2_with (fail)
  go_at_call 23
  refine (Flds.impl_merge vP vQ _ iQ cQ z0 z1 _ HP.out (by omega) EQ.out (Flds.own_mono HQ.out (Nat.zero_le _)) HL0.out HL1.out).mono ?_
  rintro e x21 ⟨vH, rfl, oH, b21⟩
  have hs21 := b21.size
  have HW := Lib.hid (Flds.holds_below HW.out (b21.mono (by omega)))
  have HG := Lib.hid (Flds.row_below HG.out b21)
  have HB := Lib.hid (Base.then_below HB.out b21)
  clear b21
  have HH := Lib.hid (Flds.own_holds oH)
  clear oH
  go_wp2_with (fail)
  go_at_call 13
  refine (Flds.eq_same vH vW _ _ (Flds.merged z0 z1) _ HH.out HW.out HK.out).mono ?_
  rintro e x22 ⟨rfl, b22⟩
  have hs22 := b22.size
  have HG := Lib.hid (Flds.row_below HG.out b22)
  have HB := Lib.hid (Base.then_below HB.out b22)
  clear b22
  go_wp2_with (fail)
  go_at_call 17
  refine (Flds.held_flds _ vG 1 (Flds.merged z0 z1).length _ (Flds.own_holds HG.out) (by omega) (by have := HK.out; omega)).mono ?_
  rintro e x23 ⟨rfl, b23⟩
  have hs23 := b23.size
  have HG := Lib.hid (Flds.row_below HG.out b23)
  have HB := Lib.hid (Base.then_below HB.out b23)
  clear b23
  go_wp2
  go_ret
  exact ⟨rfl, HB.out⟩

set_option maxRecDepth 100000 in
theorem lifted (os : Os) (started : os.Started) (H : Type) (enc : TypeId × Value → H) :
    ReturnsInHanded {} Try.checked os 7 .any (Rows.fnExactMergeFieldsSpec.pre6 enc Try.prog Try.f7 Rows.fnExactMergeFieldsRow.domain false) (Rows.fnExactMergeFieldsSpec.post enc Try.prog Try.f7 false true false false) := by
  refine returnsInHanded_of_change (C := Try.checked) own started (by kernel_rfl) Try.func7
    (ChangeSpec.witness6 (enc := enc) (C := Try.checked) false ⟨#[], #[.slice none 0 0, .slice none 0 0], []⟩ 8 (by kernel_rfl) (by kernel_rfl) (by kernel_rfl) (by kernel_rfl)) ?_
  intro W base args ds gs before hval0 hW hcnd _
  have hval : ∀ (j : Nat) t v, Try.f7.params[j]? = some t → args[j]? = some v → Value.okWide Try.prog W .any base t v := hval0
  have hW' := hW
  obtain ⟨p, q, hA0, hV, rfl, hfz, hnd⟩ := hW
  have hA : DataW.TrodAll enc Try.prog W 0 (fun _ => true) true Try.f7.params.toList args.toList ds p := hA0
  rw [Try.params7] at hA hval
  obtain ⟨v0, vs0, d0, ds0, p0, q0, hargs, rfl, rfl, h0, r0⟩ := trodAll_cons hA
  obtain ⟨v1, vs1, d1, ds1, p1, q1, rfl, rfl, rfl, h1, r1⟩ := trodAll_cons r0
  obtain ⟨rfl, rfl, rfl⟩ := trodAll_nil r1
  obtain rfl : args = #[v0, v1] := by cases args; simp_all
  obtain ⟨rfl, rfl⟩ := trodVars_none hV
  have k0 := h0
  obtain ⟨z0, y0, w01, w02⟩ := Flds.open_arg (hval 0 22 v0 rfl rfl) h0
  have w0 := And.intro w01 w02
  have k1 := h1
  obtain ⟨z1, y1, w11, w12⟩ := Flds.open_arg (hval 1 22 v1 rfl rfl) h1
  have w1 := And.intro w11 w12
  clear hA0 hval0
  simp only [List.append_nil] at hW'
  refine (walk v0 z0 v1 z1 w0 w1 W y0 y1).mono fun e W' ⟨he, hb⟩ => ?_
  subst he
  exact ⟨_, rfl, ⟨_, _, _, [], _, [], hW', (trodAll_cons_mk (shut_bool Try.underlying4 _) trodAll_mk0), (trodAll_cons_mk (Below.trod laidOut (by kernel_rfl) (of_decide_eq_true (by kernel_rfl)) k0 hb (fun x hx => hW'.lt x (by simp [hx]))) (trodAll_cons_mk (Below.trod laidOut (by kernel_rfl) (of_decide_eq_true (by kernel_rfl)) k1 hb (fun x hx => hW'.lt x (by simp [hx]))) trodAll_mk0)), rfl, hb.frame _, fun h => by cases h⟩⟩

theorem over : Rows.fnExactMergeFieldsRow.holds Try.pinned (OpenSpec.ofChange Rows.fnExactMergeFieldsSpec) :=
  OpenClaim.holds_of_wide 7 Try.f7 rfl rfl rfl rfl rfl rfl rfl ⟨rfl, rfl, rfl, rfl, rfl⟩ rfl rfl rfl rfl rfl (by kernel_rfl) Try.func7 (by kernel_rfl)
    (of_decide_eq_true (by kernel_rfl)) (by unfold Func.isWrapper; first | (rw [if_pos (by decide +kernel)]; kernel_rfl) | (rw [if_neg (by decide +kernel)]; exact ⟨rfl, rfl⟩))
    (fun os started H enc _ => lifted os started H enc)

/-- The given statement. -/
theorem proved : Rows.FnExactMergeFieldsSaid :=
  over
#print axioms proved
end Go.Proofs.Ytdnnnkilbflhlaa.fnExactMergeFields
