/-
  PROVED: at any request and any list of names the program's SelectingOf returns what its model returns, in memory of its own, and writes into no argument: the exact law of SelectingOf returns true and leaves its arguments as they were. CONDITION: the listed package-level variables are as the program's text lays them; the proof does not use what they hold.
-/
import Derived.Test.YtcpagkbfcfeocaaDoorBase
import Derived.Carry
import Derived.Test.YtcpagkbfcfeocaaDoorMsgRq
import Derived.Test.YtcpagkbfcfeocaaDoorSofI
import Derived.Test.YtcpagkbfcfeocaaDoorMarkRq
import Derived.Test.YtcpagkbfcfeocaaDoorStrArg
import Derived.Test.YtcpagkbfcfeocaaDoorStrIn
import Derived.Test.YtcpagkbfcfeocaaDoorStrEq
import Derived.Test.YtcpagkbfcfeocaaDoorFldKit
import Derived.Test.YtcpagkbfcfeocaaDoorFldArg
import Derived.Test.YtcpagkbfcfeocaaDoorFldCopy
import Derived.Test.YtcpagkbfcfeocaaDoorFldEq
import Derived.Test.YtcpagkbfcfeocaaDoorTie
import Derived.Test.YtcpagkbfcfeocaaDoorCards
import Derived.LaidMore
import Derived.Lay
import Derived.OpenVars
import Derived.Stop.LaidErr
namespace Go.Proofs.YtcpagkbfcfeocaaDoor.fnExactSelectingOf
open Go.ChangeShapes Go.WideShapes Go.ChangeAt Go.RowKit
set_option linter.unusedVariables false

theorem own : ownKnob Tryd.prog.godebug = none := by kernel_rfl

theorem laidOut : laidOutB Tryd.prog = true := by kernel_rfl

set_option maxHeartbeats 8000000 in
theorem walk (m0 h0 t0 : List UInt8) (u0 : Value) (l0 : List Msg.F) (b1 : Option Addr) (l1 c1 : Nat) (z1 : List (List UInt8)) (w0 : Msg.Ok_req m0 h0 t0 l0) (w1 : l1 ≤ maxLen ∧ z1.length = l1 ∧ (∀ x ∈ z1, x.length ≤ maxLen)) (w : World) (y0 : Flds.Holds w w.heap.size u0 l0) (y1 : Strs.Holds w w.heap.size (.slice b1 l1 c1) z1) :
    Calls Tryd.prog 4 #[.agg #[.string ⟨m0.toArray⟩, .string ⟨h0.toArray⟩, .string ⟨t0.toArray⟩, u0], .slice b1 l1 c1] w fun e w' => e = .returned (.bool true) ∧ Below w.heap.size w w' := by
  have HW0 := Lib.hid w0
  have HM1 := Lib.hid w1.1
  have HE1 := Lib.hid w1.2.1
  have HW1 := Lib.hid w1.2.2
  have HY0 := Lib.hid y0
  have HY1 := Lib.hid y1
  clear w0 w1 y0 y1
  have HB : Hid (Below w.heap.size w (w.alloc (.cells #[.string ⟨m0.toArray⟩, .string ⟨h0.toArray⟩, .string ⟨t0.toArray⟩, u0] 35))) := Lib.hid ((Below.refl w.heap.size w).alloc (by simp) (.cells #[.string ⟨m0.toArray⟩, .string ⟨h0.toArray⟩, .string ⟨t0.toArray⟩, u0] 35))
  have hz0' : w.heap.size < (w.alloc (.cells #[.string ⟨m0.toArray⟩, .string ⟨h0.toArray⟩, .string ⟨t0.toArray⟩, u0] 35)).heap.size := by simp
  have HX0 : Hid ((w.alloc (.cells #[.string ⟨m0.toArray⟩, .string ⟨h0.toArray⟩, .string ⟨t0.toArray⟩, u0] 35)).cell? ⟨w.heap.size, 0, none⟩ = some (.string ⟨m0.toArray⟩) ∧ (w.alloc (.cells #[.string ⟨m0.toArray⟩, .string ⟨h0.toArray⟩, .string ⟨t0.toArray⟩, u0] 35)).cell? ⟨w.heap.size, 1, none⟩ = some (.string ⟨h0.toArray⟩) ∧ (w.alloc (.cells #[.string ⟨m0.toArray⟩, .string ⟨h0.toArray⟩, .string ⟨t0.toArray⟩, u0] 35)).cell? ⟨w.heap.size, 2, none⟩ = some (.string ⟨t0.toArray⟩) ∧ (w.alloc (.cells #[.string ⟨m0.toArray⟩, .string ⟨h0.toArray⟩, .string ⟨t0.toArray⟩, u0] 35)).cell? ⟨w.heap.size, 3, none⟩ = some (u0)) := Lib.hid ⟨by rw [World.cell?_alloc_new]; rfl, by rw [World.cell?_alloc_new]; rfl, by rw [World.cell?_alloc_new]; rfl, by rw [World.cell?_alloc_new]; rfl⟩
  have HY0 := Lib.hid (Flds.holds_below HY0.out (HB.out.mono (Nat.le_refl _)))
  have HY1 := Lib.hid (Strs.holds_below HY1.out (HB.out.mono (Nat.le_refl _)))
  have hszw := HB.out.size
  go_enter Tryd.func4, Tryd.ntmps4
  have HX0o := HX0.out
  obtain ⟨hx0_0, hx0_1, hx0_2, hx0_3⟩ := HX0o
  go_wp2_with (fail)
  go_at_call 16
  refine (Msg.size_req m0 h0 t0 u0 l0 _ w.heap.size _ HY0.out (by omega) HW0.out (by decide) (by decide)).mono ?_
  rintro e x1 ⟨z_0, rfl, hz0, b1⟩
  have hs1 := b1.size
  clear hx0_0 hx0_1 hx0_2 hx0_3
  have HX0 := Lib.hid (And.intro ((b1.cell (p := ⟨w.heap.size, 0, none⟩) (Rec.lt_of_cell (HX0.out.1))).trans (HX0.out.1)) (And.intro ((b1.cell (p := ⟨w.heap.size, 1, none⟩) (Rec.lt_of_cell (HX0.out.2.1))).trans (HX0.out.2.1)) (And.intro ((b1.cell (p := ⟨w.heap.size, 2, none⟩) (Rec.lt_of_cell (HX0.out.2.2.1))).trans (HX0.out.2.2.1)) ((b1.cell (p := ⟨w.heap.size, 3, none⟩) (Rec.lt_of_cell (HX0.out.2.2.2))).trans (HX0.out.2.2.2)))))
  have HY0 := Lib.hid (Flds.holds_below HY0.out (b1.mono (by omega)))
  have HY1 := Lib.hid (Strs.holds_below HY1.out (b1.mono (by omega)))
  have HB := Lib.hid (Base.then_below HB.out b1)
  clear b1
  rcases hz0 with hz0 | ⟨hz0, ht0⟩
  · go_wp2
    go_ret
    exact ⟨rfl, HB.out⟩
  have hzn0 : ¬ z_0 < 0 := by omega
  have HZ0 : Hid (z_0 + ((Flds.total l0 + m0.length + h0.length + t0.length : Nat) : Int) = 1048576) := Lib.hid (by omega)
  clear ht0
  go_wp2_with (fail)
  go_at_call 17
  refine (Strs.sizel_any _ _ z1 z_0 _ HY1.out (by have := HM1.out; have := HE1.out; omega) HW1.out hz0 (by have := HZ0.out; omega)).mono ?_
  rintro e x2 ⟨z_1, rfl, hz1, hww⟩
  have b2 : Below x1.heap.size x1 x2 := by rw [hww]; exact Below.refl _ _
  clear hww
  have hs2 := b2.size
  have HX0 := Lib.hid (And.intro ((b2.cell (p := ⟨w.heap.size, 0, none⟩) (Rec.lt_of_cell (HX0.out.1))).trans (HX0.out.1)) (And.intro ((b2.cell (p := ⟨w.heap.size, 1, none⟩) (Rec.lt_of_cell (HX0.out.2.1))).trans (HX0.out.2.1)) (And.intro ((b2.cell (p := ⟨w.heap.size, 2, none⟩) (Rec.lt_of_cell (HX0.out.2.2.1))).trans (HX0.out.2.2.1)) ((b2.cell (p := ⟨w.heap.size, 3, none⟩) (Rec.lt_of_cell (HX0.out.2.2.2))).trans (HX0.out.2.2.2)))))
  have HY0 := Lib.hid (Flds.holds_below HY0.out (b2.mono (by omega)))
  have HY1 := Lib.hid (Strs.holds_below HY1.out (b2.mono (by omega)))
  have HB := Lib.hid (Base.then_below HB.out b2)
  clear b2
  rcases hz1 with hz1 | ⟨hz1, ht1⟩
  · go_wp2
    go_ret
    exact ⟨rfl, HB.out⟩
  have hzn1 : ¬ z_1 < 0 := by omega
  have HT0 : Hid (Flds.total l0 ≤ 1048576) := Lib.hid (by have := HZ0.out; omega)
  have HT1 : Hid (Strs.total z1 ≤ 1048576) := Lib.hid (by have := HZ0.out; omega)
  clear ht1
  have HL0 : Hid (l0.length ≤ 1048576) := Lib.hid (by have := HT0.out; unfold Flds.total at this; omega)
  have HL1 : Hid (z1.length ≤ 1048576) := Lib.hid (by have := HT1.out; unfold Strs.total at this; omega)
  obtain ⟨g0, hg0⟩ : ∃ z, z = Sel.sof l0 z1 := ⟨_, rfl⟩
  have HGG := Lib.hid hg0
  have HK : Hid (g0.length ≤ 1048576) := Lib.hid (by rw [hg0, Sel.sof_len]; exact HL1.out)
  clear hg0
  have HX0o := HX0.out
  obtain ⟨hx0_0, hx0_1, hx0_2, hx0_3⟩ := HX0o
  go_wp2_with (fail)
  go_at_call 19
  refine (Msg.copy_req m0 h0 t0 u0 l0 w.heap.size _ HY0.out (by have h9 := HB.out.size; omega) HL0.out).mono ?_
  rintro e x3 ⟨vA, rfl, oA, b3⟩
  have hs3 := b3.size
  obtain ⟨aA, cpA, rfl, _⟩ := Rec.shape_at oA
  clear hx0_0 hx0_1 hx0_2 hx0_3
  have HX0 := Lib.hid (And.intro ((b3.cell (p := ⟨w.heap.size, 0, none⟩) (Rec.lt_of_cell (HX0.out.1))).trans (HX0.out.1)) (And.intro ((b3.cell (p := ⟨w.heap.size, 1, none⟩) (Rec.lt_of_cell (HX0.out.2.1))).trans (HX0.out.2.1)) (And.intro ((b3.cell (p := ⟨w.heap.size, 2, none⟩) (Rec.lt_of_cell (HX0.out.2.2.1))).trans (HX0.out.2.2.1)) ((b3.cell (p := ⟨w.heap.size, 3, none⟩) (Rec.lt_of_cell (HX0.out.2.2.2))).trans (HX0.out.2.2.2)))))
  have HY0 := Lib.hid (Flds.holds_below HY0.out (b3.mono (by omega)))
  have HY1 := Lib.hid (Strs.holds_below HY1.out (b3.mono (by omega)))
  have HB := Lib.hid (Base.then_below HB.out b3)
  clear b3
  have HA := Lib.hid (Flds.own_holds oA)
  clear oA
  go_wp2_with (fail)
  go_at_call 20
  refine (Strs.copy _ _ z1 _ HY1.out (by have := HL1.out; omega)).mono ?_
  rintro e x4 ⟨nA, rfl, pA, b4⟩
  have hs4 := b4.size
  have HX0 := Lib.hid (And.intro ((b4.cell (p := ⟨w.heap.size, 0, none⟩) (Rec.lt_of_cell (HX0.out.1))).trans (HX0.out.1)) (And.intro ((b4.cell (p := ⟨w.heap.size, 1, none⟩) (Rec.lt_of_cell (HX0.out.2.1))).trans (HX0.out.2.1)) (And.intro ((b4.cell (p := ⟨w.heap.size, 2, none⟩) (Rec.lt_of_cell (HX0.out.2.2.1))).trans (HX0.out.2.2.1)) ((b4.cell (p := ⟨w.heap.size, 3, none⟩) (Rec.lt_of_cell (HX0.out.2.2.2))).trans (HX0.out.2.2.2)))))
  have HY0 := Lib.hid (Flds.holds_below HY0.out (b4.mono (by omega)))
  have HY1 := Lib.hid (Strs.holds_below HY1.out (b4.mono (by omega)))
  have HA := Lib.hid (Flds.holds_below HA.out (b4.mono (by omega)))
  have HB := Lib.hid (Base.then_below HB.out b4)
  clear b4
  have HAn := Lib.hid (Strs.own_holds pA)
  clear pA
  go_wp2_with (fail)
  go_at_call 18
  refine (Sel.spec_sof m0 h0 t0 (.slice aA l0.length cpA) _ l0 nA _ z1 _ HA.out (by omega) HT0.out HAn.out (by omega) HL1.out).mono ?_
  rintro e x5 ⟨vW, rfl, oW, b5⟩
  rw [← HGG.out] at oW
  have hs5 := b5.size
  have HX0 := Lib.hid (And.intro ((b5.cell (p := ⟨w.heap.size, 0, none⟩) (Rec.lt_of_cell (HX0.out.1))).trans (HX0.out.1)) (And.intro ((b5.cell (p := ⟨w.heap.size, 1, none⟩) (Rec.lt_of_cell (HX0.out.2.1))).trans (HX0.out.2.1)) (And.intro ((b5.cell (p := ⟨w.heap.size, 2, none⟩) (Rec.lt_of_cell (HX0.out.2.2.1))).trans (HX0.out.2.2.1)) ((b5.cell (p := ⟨w.heap.size, 3, none⟩) (Rec.lt_of_cell (HX0.out.2.2.2))).trans (HX0.out.2.2.2)))))
  have HY0 := Lib.hid (Flds.holds_below HY0.out (b5.mono (by omega)))
  have HY1 := Lib.hid (Strs.holds_below HY1.out (b5.mono (by omega)))
  have HB := Lib.hid (Base.then_below HB.out b5)
  clear b5
  have HWW := Lib.hid (Flds.own_holds oW)
  clear oW
  have HX0o := HX0.out
  obtain ⟨hx0_0, hx0_1, hx0_2, hx0_3⟩ := HX0o
  go_wp2_with (fail)
  go_at_call 19
  refine (Msg.copy_req m0 h0 t0 u0 l0 w.heap.size _ HY0.out (by have h9 := HB.out.size; omega) HL0.out).mono ?_
  rintro e x6 ⟨vX, rfl, oX, b6⟩
  have hs6 := b6.size
  obtain ⟨aX, cpX, rfl, _⟩ := Rec.shape_at oX
  clear hx0_0 hx0_1 hx0_2 hx0_3
  have HX0 := Lib.hid (And.intro ((b6.cell (p := ⟨w.heap.size, 0, none⟩) (Rec.lt_of_cell (HX0.out.1))).trans (HX0.out.1)) (And.intro ((b6.cell (p := ⟨w.heap.size, 1, none⟩) (Rec.lt_of_cell (HX0.out.2.1))).trans (HX0.out.2.1)) (And.intro ((b6.cell (p := ⟨w.heap.size, 2, none⟩) (Rec.lt_of_cell (HX0.out.2.2.1))).trans (HX0.out.2.2.1)) ((b6.cell (p := ⟨w.heap.size, 3, none⟩) (Rec.lt_of_cell (HX0.out.2.2.2))).trans (HX0.out.2.2.2)))))
  have HY0 := Lib.hid (Flds.holds_below HY0.out (b6.mono (by omega)))
  have HY1 := Lib.hid (Strs.holds_below HY1.out (b6.mono (by omega)))
  have HWW := Lib.hid (Flds.holds_below HWW.out (b6.mono (by omega)))
  have HB := Lib.hid (Base.then_below HB.out b6)
  clear b6
  have HX := Lib.hid (oX)
  clear oX
  have hsa7 : (x6.alloc (.cells #[.string ⟨m0.toArray⟩, .string ⟨h0.toArray⟩, .string ⟨t0.toArray⟩, (.slice aX l0.length cpX)] 39)).heap.size = x6.heap.size + 1 := by simp
  have HX0 := Lib.hid (And.intro ((((Below.refl x6.heap.size x6).alloc (Nat.le_refl _) (.cells #[.string ⟨m0.toArray⟩, .string ⟨h0.toArray⟩, .string ⟨t0.toArray⟩, (.slice aX l0.length cpX)] 39)).cell (p := ⟨w.heap.size, 0, none⟩) (Rec.lt_of_cell (HX0.out.1))).trans (HX0.out.1)) (And.intro ((((Below.refl x6.heap.size x6).alloc (Nat.le_refl _) (.cells #[.string ⟨m0.toArray⟩, .string ⟨h0.toArray⟩, .string ⟨t0.toArray⟩, (.slice aX l0.length cpX)] 39)).cell (p := ⟨w.heap.size, 1, none⟩) (Rec.lt_of_cell (HX0.out.2.1))).trans (HX0.out.2.1)) (And.intro ((((Below.refl x6.heap.size x6).alloc (Nat.le_refl _) (.cells #[.string ⟨m0.toArray⟩, .string ⟨h0.toArray⟩, .string ⟨t0.toArray⟩, (.slice aX l0.length cpX)] 39)).cell (p := ⟨w.heap.size, 2, none⟩) (Rec.lt_of_cell (HX0.out.2.2.1))).trans (HX0.out.2.2.1)) ((((Below.refl x6.heap.size x6).alloc (Nat.le_refl _) (.cells #[.string ⟨m0.toArray⟩, .string ⟨h0.toArray⟩, .string ⟨t0.toArray⟩, (.slice aX l0.length cpX)] 39)).cell (p := ⟨w.heap.size, 3, none⟩) (Rec.lt_of_cell (HX0.out.2.2.2))).trans (HX0.out.2.2.2)))))
  have HY0 := Lib.hid (Flds.holds_below HY0.out (((Below.refl x6.heap.size x6).alloc (Nat.le_refl _) (.cells #[.string ⟨m0.toArray⟩, .string ⟨h0.toArray⟩, .string ⟨t0.toArray⟩, (.slice aX l0.length cpX)] 39)).mono (by omega)))
  have HY1 := Lib.hid (Strs.holds_below HY1.out (((Below.refl x6.heap.size x6).alloc (Nat.le_refl _) (.cells #[.string ⟨m0.toArray⟩, .string ⟨h0.toArray⟩, .string ⟨t0.toArray⟩, (.slice aX l0.length cpX)] 39)).mono (by omega)))
  have HWW := Lib.hid (Flds.holds_below HWW.out (((Below.refl x6.heap.size x6).alloc (Nat.le_refl _) (.cells #[.string ⟨m0.toArray⟩, .string ⟨h0.toArray⟩, .string ⟨t0.toArray⟩, (.slice aX l0.length cpX)] 39)).mono (by omega)))
  have HX := Lib.hid (Flds.row_below HX.out ((Below.refl x6.heap.size x6).alloc (Nat.le_refl _) (.cells #[.string ⟨m0.toArray⟩, .string ⟨h0.toArray⟩, .string ⟨t0.toArray⟩, (.slice aX l0.length cpX)] 39)))
  have HB := Lib.hid (HB.out.alloc HB.out.size (.cells #[.string ⟨m0.toArray⟩, .string ⟨h0.toArray⟩, .string ⟨t0.toArray⟩, (.slice aX l0.length cpX)] 39))
  have HZX : Hid ((x6.alloc (.cells #[.string ⟨m0.toArray⟩, .string ⟨h0.toArray⟩, .string ⟨t0.toArray⟩, (.slice aX l0.length cpX)] 39)).cell? ⟨x6.heap.size, 0, none⟩ = some (.string ⟨m0.toArray⟩) ∧ (x6.alloc (.cells #[.string ⟨m0.toArray⟩, .string ⟨h0.toArray⟩, .string ⟨t0.toArray⟩, (.slice aX l0.length cpX)] 39)).cell? ⟨x6.heap.size, 1, none⟩ = some (.string ⟨h0.toArray⟩) ∧ (x6.alloc (.cells #[.string ⟨m0.toArray⟩, .string ⟨h0.toArray⟩, .string ⟨t0.toArray⟩, (.slice aX l0.length cpX)] 39)).cell? ⟨x6.heap.size, 2, none⟩ = some (.string ⟨t0.toArray⟩) ∧ (x6.alloc (.cells #[.string ⟨m0.toArray⟩, .string ⟨h0.toArray⟩, .string ⟨t0.toArray⟩, (.slice aX l0.length cpX)] 39)).cell? ⟨x6.heap.size, 3, none⟩ = some ((.slice aX l0.length cpX))) := Lib.hid ⟨by rw [World.cell?_alloc_new]; rfl, by rw [World.cell?_alloc_new]; rfl, by rw [World.cell?_alloc_new]; rfl, by rw [World.cell?_alloc_new]; rfl⟩
  go_wp2_with (fail)
  go_at_call 20
  refine (Strs.copy _ _ z1 _ HY1.out (by have := HL1.out; omega)).mono ?_
  rintro e x8 ⟨nX, rfl, pX, b8⟩
  have hs8 := b8.size
  have NXn_X : Hid (∀ g, nX.ownBlock = some g → some g ≠ Value.ownBlock (.slice aX l0.length cpX)) := Lib.hid (fun g hg hx => by have q1 := (World.ownsRow.lt pX g hg).1; have q2 := (World.ownsRow.lt HX.out g hx.symm).2; omega)
  have HX0 := Lib.hid (And.intro ((b8.cell (p := ⟨w.heap.size, 0, none⟩) (Rec.lt_of_cell (HX0.out.1))).trans (HX0.out.1)) (And.intro ((b8.cell (p := ⟨w.heap.size, 1, none⟩) (Rec.lt_of_cell (HX0.out.2.1))).trans (HX0.out.2.1)) (And.intro ((b8.cell (p := ⟨w.heap.size, 2, none⟩) (Rec.lt_of_cell (HX0.out.2.2.1))).trans (HX0.out.2.2.1)) ((b8.cell (p := ⟨w.heap.size, 3, none⟩) (Rec.lt_of_cell (HX0.out.2.2.2))).trans (HX0.out.2.2.2)))))
  have HY0 := Lib.hid (Flds.holds_below HY0.out (b8.mono (by omega)))
  have HY1 := Lib.hid (Strs.holds_below HY1.out (b8.mono (by omega)))
  have HWW := Lib.hid (Flds.holds_below HWW.out (b8.mono (by omega)))
  have HX := Lib.hid (Flds.row_below HX.out b8)
  have HZX := Lib.hid (And.intro ((b8.cell (p := ⟨x6.heap.size, 0, none⟩) (Rec.lt_of_cell (HZX.out.1))).trans (HZX.out.1)) (And.intro ((b8.cell (p := ⟨x6.heap.size, 1, none⟩) (Rec.lt_of_cell (HZX.out.2.1))).trans (HZX.out.2.1)) (And.intro ((b8.cell (p := ⟨x6.heap.size, 2, none⟩) (Rec.lt_of_cell (HZX.out.2.2.1))).trans (HZX.out.2.2.1)) ((b8.cell (p := ⟨x6.heap.size, 3, none⟩) (Rec.lt_of_cell (HZX.out.2.2.2))).trans (HZX.out.2.2.2)))))
  have HB := Lib.hid (Base.then_below HB.out b8)
  clear b8
  have HXn := Lib.hid (pX)
  clear pX
  have HZXo := HZX.out
  obtain ⟨hzx_0, hzx_1, hzx_2, hzx_3⟩ := HZXo
  go_wp2_with (fail)
  go_at_call 21
  refine (Sel.impl_sof m0 h0 t0 (.slice aX l0.length cpX) _ l0 nX _ z1 _ (Flds.own_holds HX.out) (by omega) HT0.out (Strs.own_holds HXn.out) (by omega) HL1.out).mono ?_
  rintro e x9 ⟨vG, rfl, oG, b9⟩
  rw [← HGG.out] at oG
  have hs9 := b9.size
  clear hzx_0 hzx_1 hzx_2 hzx_3
  have NG_X : Hid (∀ g, vG.ownBlock = some g → some g ≠ Value.ownBlock (.slice aX l0.length cpX)) := Lib.hid (fun g hg hx => by have q1 := (World.ownsRow.lt oG g hg).1; have q2 := (World.ownsRow.lt HX.out g hx.symm).2; omega)
  have NG_Xn : Hid (∀ g, vG.ownBlock = some g → some g ≠ nX.ownBlock) := Lib.hid (fun g hg hx => by have q1 := (World.ownsRow.lt oG g hg).1; have q2 := (World.ownsRow.lt HXn.out g hx.symm).2; omega)
  have HX0 := Lib.hid (And.intro ((b9.cell (p := ⟨w.heap.size, 0, none⟩) (Rec.lt_of_cell (HX0.out.1))).trans (HX0.out.1)) (And.intro ((b9.cell (p := ⟨w.heap.size, 1, none⟩) (Rec.lt_of_cell (HX0.out.2.1))).trans (HX0.out.2.1)) (And.intro ((b9.cell (p := ⟨w.heap.size, 2, none⟩) (Rec.lt_of_cell (HX0.out.2.2.1))).trans (HX0.out.2.2.1)) ((b9.cell (p := ⟨w.heap.size, 3, none⟩) (Rec.lt_of_cell (HX0.out.2.2.2))).trans (HX0.out.2.2.2)))))
  have HY0 := Lib.hid (Flds.holds_below HY0.out (b9.mono (by omega)))
  have HY1 := Lib.hid (Strs.holds_below HY1.out (b9.mono (by omega)))
  have HWW := Lib.hid (Flds.holds_below HWW.out (b9.mono (by omega)))
  have HX := Lib.hid (Flds.row_below HX.out b9)
  have HZX := Lib.hid (And.intro ((b9.cell (p := ⟨x6.heap.size, 0, none⟩) (Rec.lt_of_cell (HZX.out.1))).trans (HZX.out.1)) (And.intro ((b9.cell (p := ⟨x6.heap.size, 1, none⟩) (Rec.lt_of_cell (HZX.out.2.1))).trans (HZX.out.2.1)) (And.intro ((b9.cell (p := ⟨x6.heap.size, 2, none⟩) (Rec.lt_of_cell (HZX.out.2.2.1))).trans (HZX.out.2.2.1)) ((b9.cell (p := ⟨x6.heap.size, 3, none⟩) (Rec.lt_of_cell (HZX.out.2.2.2))).trans (HZX.out.2.2.2)))))
  have HXn := Lib.hid (Flds.row_below HXn.out b9)
  have HB := Lib.hid (Base.then_below HB.out b9)
  clear b9
  have HG := Lib.hid oG
  clear oG
  go_wp2_with (fail)
  go_at_call 12
  refine (Flds.eq_same vG vW _ _ g0 _ (Flds.own_holds HG.out) HWW.out HK.out).mono ?_
  rintro e x10 ⟨rfl, b10⟩
  have hs10 := b10.size
  have HX0 := Lib.hid (And.intro ((b10.cell (p := ⟨w.heap.size, 0, none⟩) (Rec.lt_of_cell (HX0.out.1))).trans (HX0.out.1)) (And.intro ((b10.cell (p := ⟨w.heap.size, 1, none⟩) (Rec.lt_of_cell (HX0.out.2.1))).trans (HX0.out.2.1)) (And.intro ((b10.cell (p := ⟨w.heap.size, 2, none⟩) (Rec.lt_of_cell (HX0.out.2.2.1))).trans (HX0.out.2.2.1)) ((b10.cell (p := ⟨w.heap.size, 3, none⟩) (Rec.lt_of_cell (HX0.out.2.2.2))).trans (HX0.out.2.2.2)))))
  have HY0 := Lib.hid (Flds.holds_below HY0.out (b10.mono (by omega)))
  have HY1 := Lib.hid (Strs.holds_below HY1.out (b10.mono (by omega)))
  have HWW := Lib.hid (Flds.holds_below HWW.out (b10.mono (by omega)))
  have HX := Lib.hid (Flds.row_below HX.out b10)
  have HZX := Lib.hid (And.intro ((b10.cell (p := ⟨x6.heap.size, 0, none⟩) (Rec.lt_of_cell (HZX.out.1))).trans (HZX.out.1)) (And.intro ((b10.cell (p := ⟨x6.heap.size, 1, none⟩) (Rec.lt_of_cell (HZX.out.2.1))).trans (HZX.out.2.1)) (And.intro ((b10.cell (p := ⟨x6.heap.size, 2, none⟩) (Rec.lt_of_cell (HZX.out.2.2.1))).trans (HZX.out.2.2.1)) ((b10.cell (p := ⟨x6.heap.size, 3, none⟩) (Rec.lt_of_cell (HZX.out.2.2.2))).trans (HZX.out.2.2.2)))))
  have HXn := Lib.hid (Flds.row_below HXn.out b10)
  have HG := Lib.hid (Flds.row_below HG.out b10)
  have HB := Lib.hid (Base.then_below HB.out b10)
  clear b10
  have HX0 : Hid (x10.drew.cell? ⟨w.heap.size, 0, none⟩ = some (.string ⟨m0.toArray⟩) ∧ x10.drew.cell? ⟨w.heap.size, 1, none⟩ = some (.string ⟨h0.toArray⟩) ∧ x10.drew.cell? ⟨w.heap.size, 2, none⟩ = some (.string ⟨t0.toArray⟩) ∧ x10.drew.cell? ⟨w.heap.size, 3, none⟩ = some (u0)) := Lib.hid HX0.out
  have HX := Lib.hid (World.ownsRow.drew HX.out)
  have HZX : Hid (x10.drew.cell? ⟨x6.heap.size, 0, none⟩ = some (.string ⟨m0.toArray⟩) ∧ x10.drew.cell? ⟨x6.heap.size, 1, none⟩ = some (.string ⟨h0.toArray⟩) ∧ x10.drew.cell? ⟨x6.heap.size, 2, none⟩ = some (.string ⟨t0.toArray⟩) ∧ x10.drew.cell? ⟨x6.heap.size, 3, none⟩ = some ((.slice aX l0.length cpX))) := Lib.hid HZX.out
  have HXn := Lib.hid (World.ownsRow.drew HXn.out)
  have HG := Lib.hid (World.ownsRow.drew HG.out)
  have HY0 : Hid (Flds.Holds x10.drew w.heap.size u0 l0) := Lib.hid HY0.out
  have HY1 : Hid (Strs.Holds x10.drew w.heap.size (.slice b1 l1 c1) z1) := Lib.hid HY1.out
  have HWW : Hid (Flds.Holds x10.drew _ vW g0) := Lib.hid HWW.out
  have HB := Lib.hid (Rec.below_drew HB.out)
  have hdz11 : x10.drew.heap.size = x10.heap.size := rfl
  have qhx0_0 := HX0.out.1
  have qhx0_1 := HX0.out.2.1
  have qhx0_2 := HX0.out.2.2.1
  have qhx0_3 := HX0.out.2.2.2
  have qhzx_0 := HZX.out.1
  have qhzx_1 := HZX.out.2.1
  have qhzx_2 := HZX.out.2.2.1
  have qhzx_3 := HZX.out.2.2.2
  go_wp2
  go_region_with (first | (go_at_call 19; refine (Msg.copy_req m0 h0 t0 u0 l0 w.heap.size _ HY0.out (by have h9 := HB.out.size; omega) HL0.out).mono ?_; rintro e xq ⟨vC, rfl, oC, bq⟩; clear qhx0_0 qhx0_1 qhx0_2 qhx0_3 qhzx_0 qhzx_1 qhzx_2 qhzx_3; have hqz := bq.size; have HX0 := Lib.hid (And.intro ((bq.cell (p := ⟨w.heap.size, 0, none⟩) (Rec.lt_of_cell (HX0.out.1))).trans (HX0.out.1)) (And.intro ((bq.cell (p := ⟨w.heap.size, 1, none⟩) (Rec.lt_of_cell (HX0.out.2.1))).trans (HX0.out.2.1)) (And.intro ((bq.cell (p := ⟨w.heap.size, 2, none⟩) (Rec.lt_of_cell (HX0.out.2.2.1))).trans (HX0.out.2.2.1)) ((bq.cell (p := ⟨w.heap.size, 3, none⟩) (Rec.lt_of_cell (HX0.out.2.2.2))).trans (HX0.out.2.2.2))))); have HY0 := Lib.hid (Flds.holds_below HY0.out (bq.mono (by have h9 := HB.out.size; omega))); have HY1 := Lib.hid (Strs.holds_below HY1.out (bq.mono (by have h9 := HB.out.size; omega))); have HWW := Lib.hid (Flds.holds_below HWW.out (bq.mono (by have h9 := HB.out.size; omega))); have HX := Lib.hid (Flds.row_below HX.out bq); have HZX := Lib.hid (And.intro ((bq.cell (p := ⟨x6.heap.size, 0, none⟩) (Rec.lt_of_cell (HZX.out.1))).trans (HZX.out.1)) (And.intro ((bq.cell (p := ⟨x6.heap.size, 1, none⟩) (Rec.lt_of_cell (HZX.out.2.1))).trans (HZX.out.2.1)) (And.intro ((bq.cell (p := ⟨x6.heap.size, 2, none⟩) (Rec.lt_of_cell (HZX.out.2.2.1))).trans (HZX.out.2.2.1)) ((bq.cell (p := ⟨x6.heap.size, 3, none⟩) (Rec.lt_of_cell (HZX.out.2.2.2))).trans (HZX.out.2.2.2))))); have HXn := Lib.hid (Flds.row_below HXn.out bq); have HG := Lib.hid (Flds.row_below HG.out bq); have HB := Lib.hid (Base.then_below HB.out bq); have HC := Lib.hid (Flds.own_holds oC); have qhx0_0 := HX0.out.1; have qhx0_1 := HX0.out.2.1; have qhx0_2 := HX0.out.2.2.1; have qhx0_3 := HX0.out.2.2.2; have qhzx_0 := HZX.out.1; have qhzx_1 := HZX.out.2.1; have qhzx_2 := HZX.out.2.2.1; have qhzx_3 := HZX.out.2.2.2; clear bq oC) | (go_at_call 22; refine (Msg.eq_req m0 h0 t0 (.slice aX l0.length cpX) l0 vC _ _ _ (Flds.own_holds HX.out) HC.out (by omega) (by omega) HL0.out).mono ?_; rintro e xq ⟨rfl, bq⟩; clear qhx0_0 qhx0_1 qhx0_2 qhx0_3 qhzx_0 qhzx_1 qhzx_2 qhzx_3; have hqz := bq.size; have HX0 := Lib.hid (And.intro ((bq.cell (p := ⟨w.heap.size, 0, none⟩) (Rec.lt_of_cell (HX0.out.1))).trans (HX0.out.1)) (And.intro ((bq.cell (p := ⟨w.heap.size, 1, none⟩) (Rec.lt_of_cell (HX0.out.2.1))).trans (HX0.out.2.1)) (And.intro ((bq.cell (p := ⟨w.heap.size, 2, none⟩) (Rec.lt_of_cell (HX0.out.2.2.1))).trans (HX0.out.2.2.1)) ((bq.cell (p := ⟨w.heap.size, 3, none⟩) (Rec.lt_of_cell (HX0.out.2.2.2))).trans (HX0.out.2.2.2))))); have HY0 := Lib.hid (Flds.holds_below HY0.out (bq.mono (by have h9 := HB.out.size; omega))); have HY1 := Lib.hid (Strs.holds_below HY1.out (bq.mono (by have h9 := HB.out.size; omega))); have HWW := Lib.hid (Flds.holds_below HWW.out (bq.mono (by have h9 := HB.out.size; omega))); have HX := Lib.hid (Flds.row_below HX.out bq); have HZX := Lib.hid (And.intro ((bq.cell (p := ⟨x6.heap.size, 0, none⟩) (Rec.lt_of_cell (HZX.out.1))).trans (HZX.out.1)) (And.intro ((bq.cell (p := ⟨x6.heap.size, 1, none⟩) (Rec.lt_of_cell (HZX.out.2.1))).trans (HZX.out.2.1)) (And.intro ((bq.cell (p := ⟨x6.heap.size, 2, none⟩) (Rec.lt_of_cell (HZX.out.2.2.1))).trans (HZX.out.2.2.1)) ((bq.cell (p := ⟨x6.heap.size, 3, none⟩) (Rec.lt_of_cell (HZX.out.2.2.2))).trans (HZX.out.2.2.2))))); have HXn := Lib.hid (Flds.row_below HXn.out bq); have HG := Lib.hid (Flds.row_below HG.out bq); have HB := Lib.hid (Base.then_below HB.out bq); clear bq HC))
  all_goals have hsr11 := HB.out.size
  all_goals (
    go_wp2_with (fail)
    go_at_call 20
    refine (Strs.copy _ _ z1 _ HY1.out (by have := HL1.out; omega)).mono ?_
    rintro e x12 ⟨nC, rfl, pC, b12⟩
    have hs12 := b12.size
    have HX0 := Lib.hid (And.intro ((b12.cell (p := ⟨w.heap.size, 0, none⟩) (Rec.lt_of_cell (HX0.out.1))).trans (HX0.out.1)) (And.intro ((b12.cell (p := ⟨w.heap.size, 1, none⟩) (Rec.lt_of_cell (HX0.out.2.1))).trans (HX0.out.2.1)) (And.intro ((b12.cell (p := ⟨w.heap.size, 2, none⟩) (Rec.lt_of_cell (HX0.out.2.2.1))).trans (HX0.out.2.2.1)) ((b12.cell (p := ⟨w.heap.size, 3, none⟩) (Rec.lt_of_cell (HX0.out.2.2.2))).trans (HX0.out.2.2.2)))))
    have HY0 := Lib.hid (Flds.holds_below HY0.out (b12.mono (by omega)))
    have HY1 := Lib.hid (Strs.holds_below HY1.out (b12.mono (by omega)))
    have HWW := Lib.hid (Flds.holds_below HWW.out (b12.mono (by omega)))
    have HX := Lib.hid (Flds.row_below HX.out b12)
    have HZX := Lib.hid (And.intro ((b12.cell (p := ⟨x6.heap.size, 0, none⟩) (Rec.lt_of_cell (HZX.out.1))).trans (HZX.out.1)) (And.intro ((b12.cell (p := ⟨x6.heap.size, 1, none⟩) (Rec.lt_of_cell (HZX.out.2.1))).trans (HZX.out.2.1)) (And.intro ((b12.cell (p := ⟨x6.heap.size, 2, none⟩) (Rec.lt_of_cell (HZX.out.2.2.1))).trans (HZX.out.2.2.1)) ((b12.cell (p := ⟨x6.heap.size, 3, none⟩) (Rec.lt_of_cell (HZX.out.2.2.2))).trans (HZX.out.2.2.2)))))
    have HXn := Lib.hid (Flds.row_below HXn.out b12)
    have HG := Lib.hid (Flds.row_below HG.out b12)
    have HB := Lib.hid (Base.then_below HB.out b12)
    clear b12
    have HCn := Lib.hid (Strs.own_holds pC)
    clear pC
    go_wp2_with (fail)
    go_at_call 11
    refine (Strs.eq_same nX nC _ _ z1 _ (Strs.own_holds HXn.out) HCn.out (by have := HL1.out; omega)).mono ?_
    rintro e x13 ⟨rfl, b13⟩
    have hs13 := b13.size
    have HX0 := Lib.hid (And.intro ((b13.cell (p := ⟨w.heap.size, 0, none⟩) (Rec.lt_of_cell (HX0.out.1))).trans (HX0.out.1)) (And.intro ((b13.cell (p := ⟨w.heap.size, 1, none⟩) (Rec.lt_of_cell (HX0.out.2.1))).trans (HX0.out.2.1)) (And.intro ((b13.cell (p := ⟨w.heap.size, 2, none⟩) (Rec.lt_of_cell (HX0.out.2.2.1))).trans (HX0.out.2.2.1)) ((b13.cell (p := ⟨w.heap.size, 3, none⟩) (Rec.lt_of_cell (HX0.out.2.2.2))).trans (HX0.out.2.2.2)))))
    have HY0 := Lib.hid (Flds.holds_below HY0.out (b13.mono (by omega)))
    have HY1 := Lib.hid (Strs.holds_below HY1.out (b13.mono (by omega)))
    have HWW := Lib.hid (Flds.holds_below HWW.out (b13.mono (by omega)))
    have HX := Lib.hid (Flds.row_below HX.out b13)
    have HZX := Lib.hid (And.intro ((b13.cell (p := ⟨x6.heap.size, 0, none⟩) (Rec.lt_of_cell (HZX.out.1))).trans (HZX.out.1)) (And.intro ((b13.cell (p := ⟨x6.heap.size, 1, none⟩) (Rec.lt_of_cell (HZX.out.2.1))).trans (HZX.out.2.1)) (And.intro ((b13.cell (p := ⟨x6.heap.size, 2, none⟩) (Rec.lt_of_cell (HZX.out.2.2.1))).trans (HZX.out.2.2.1)) ((b13.cell (p := ⟨x6.heap.size, 3, none⟩) (Rec.lt_of_cell (HZX.out.2.2.2))).trans (HZX.out.2.2.2)))))
    have HXn := Lib.hid (Flds.row_below HXn.out b13)
    have HG := Lib.hid (Flds.row_below HG.out b13)
    have HB := Lib.hid (Base.then_below HB.out b13)
    clear b13
    have HZXo := HZX.out
    obtain ⟨hzx_0, hzx_1, hzx_2, hzx_3⟩ := HZXo
    go_wp2_with (fail)
    go_at_call 23
    refine (Mark.mark_req m0 h0 t0 _ (.slice aX l0.length cpX) l0 1 _ HX.out (by omega) (by omega) (by have := HL0.out; omega)).mono ?_
    rintro e x14 ⟨rfl, oM, gM⟩
    have hs14 := gM.size
    have HR : Hid (∀ k, Value.ownBlock (.slice aX l0.length cpX) = some k → x5.heap.size ≤ k) := Lib.hid (fun k e => (World.ownsRow.lt HX.out k e).1)
    have HX0 := Lib.hid (And.intro (gM.cell (HX0.out.1) (fun e => by have h9 : x5.heap.size ≤ w.heap.size := HR.out _ e.symm; omega)) (And.intro (gM.cell (HX0.out.2.1) (fun e => by have h9 : x5.heap.size ≤ w.heap.size := HR.out _ e.symm; omega)) (And.intro (gM.cell (HX0.out.2.2.1) (fun e => by have h9 : x5.heap.size ≤ w.heap.size := HR.out _ e.symm; omega)) (gM.cell (HX0.out.2.2.2) (fun e => by have h9 : x5.heap.size ≤ w.heap.size := HR.out _ e.symm; omega)))))
    have HY0 := Lib.hid (Flds.holds_grown HY0.out gM (fun k e => by have := HR.out k e; omega))
    have HY1 := Lib.hid (Strs.holds_grown HY1.out gM (fun k e => by have := HR.out k e; omega))
    have HWW := Lib.hid (Flds.holds_grown HWW.out gM (fun k e => by have := HR.out k e; omega))
    have HXn := Lib.hid (Flds.row_grown HXn.out gM NXn_X.out)
    have HG := Lib.hid (Flds.row_grown HG.out gM NG_X.out)
    have HB := Lib.hid (HB.out.grown gM HB.out.size (fun k e => by have := HR.out k e; omega))
    have HX := Lib.hid oM
    clear oM gM HR
    clear hzx_0 hzx_1 hzx_2 hzx_3
    go_wp2_with (fail)
    go_at_call 14
    refine (Mark.mark_strs_g _ nX z1 (1 + l0.length * 2) _ HXn.out (by omega) (by omega) (by have := HL0.out; have := HL1.out; omega)).mono ?_
    rintro e x15 ⟨rfl, oM, gM⟩
    have hs15 := gM.size
    have HR : Hid (∀ k, Value.ownBlock nX = some k → (x6.alloc (.cells #[.string ⟨m0.toArray⟩, .string ⟨h0.toArray⟩, .string ⟨t0.toArray⟩, (.slice aX l0.length cpX)] 39)).heap.size ≤ k) := Lib.hid (fun k e => (World.ownsRow.lt HXn.out k e).1)
    have HX0 := Lib.hid (And.intro (gM.cell (HX0.out.1) (fun e => by have h9 : (x6.alloc (.cells #[.string ⟨m0.toArray⟩, .string ⟨h0.toArray⟩, .string ⟨t0.toArray⟩, (.slice aX l0.length cpX)] 39)).heap.size ≤ w.heap.size := HR.out _ e.symm; omega)) (And.intro (gM.cell (HX0.out.2.1) (fun e => by have h9 : (x6.alloc (.cells #[.string ⟨m0.toArray⟩, .string ⟨h0.toArray⟩, .string ⟨t0.toArray⟩, (.slice aX l0.length cpX)] 39)).heap.size ≤ w.heap.size := HR.out _ e.symm; omega)) (And.intro (gM.cell (HX0.out.2.2.1) (fun e => by have h9 : (x6.alloc (.cells #[.string ⟨m0.toArray⟩, .string ⟨h0.toArray⟩, .string ⟨t0.toArray⟩, (.slice aX l0.length cpX)] 39)).heap.size ≤ w.heap.size := HR.out _ e.symm; omega)) (gM.cell (HX0.out.2.2.2) (fun e => by have h9 : (x6.alloc (.cells #[.string ⟨m0.toArray⟩, .string ⟨h0.toArray⟩, .string ⟨t0.toArray⟩, (.slice aX l0.length cpX)] 39)).heap.size ≤ w.heap.size := HR.out _ e.symm; omega)))))
    have HY0 := Lib.hid (Flds.holds_grown HY0.out gM (fun k e => by have := HR.out k e; omega))
    have HY1 := Lib.hid (Strs.holds_grown HY1.out gM (fun k e => by have := HR.out k e; omega))
    have HWW := Lib.hid (Flds.holds_grown HWW.out gM (fun k e => by have := HR.out k e; omega))
    have HG := Lib.hid (Flds.row_grown HG.out gM NG_Xn.out)
    have HB := Lib.hid (HB.out.grown gM HB.out.size (fun k e => by have := HR.out k e; omega))
    have HXn := Lib.hid oM
    clear oM gM HR
    have hk1 : ¬ ((1 + l0.length * 2 + z1.length : Nat) : Int) < 0 := by omega
    go_wp2_with (fail)
    go_at_call 12
    refine (Flds.eq_same vG vW _ _ g0 _ (Flds.own_holds HG.out) HWW.out HK.out).mono ?_
    rintro e x16 ⟨rfl, b16⟩
    have hs16 := b16.size
    have HX0 := Lib.hid (And.intro ((b16.cell (p := ⟨w.heap.size, 0, none⟩) (Rec.lt_of_cell (HX0.out.1))).trans (HX0.out.1)) (And.intro ((b16.cell (p := ⟨w.heap.size, 1, none⟩) (Rec.lt_of_cell (HX0.out.2.1))).trans (HX0.out.2.1)) (And.intro ((b16.cell (p := ⟨w.heap.size, 2, none⟩) (Rec.lt_of_cell (HX0.out.2.2.1))).trans (HX0.out.2.2.1)) ((b16.cell (p := ⟨w.heap.size, 3, none⟩) (Rec.lt_of_cell (HX0.out.2.2.2))).trans (HX0.out.2.2.2)))))
    have HY0 := Lib.hid (Flds.holds_below HY0.out (b16.mono (by omega)))
    have HY1 := Lib.hid (Strs.holds_below HY1.out (b16.mono (by omega)))
    have HWW := Lib.hid (Flds.holds_below HWW.out (b16.mono (by omega)))
    have HG := Lib.hid (Flds.row_below HG.out b16)
    have HB := Lib.hid (Base.then_below HB.out b16)
    clear b16
    go_wp2_with (fail)
    go_at_call 13
    refine (Flds.mark_flds _ vG g0 1 _ HG.out (by omega) (by omega) (by have := HK.out; omega)).mono ?_
    rintro e x17 ⟨rfl, oM, gM⟩
    have hs17 := gM.size
    have HR : Hid (∀ k, Value.ownBlock vG = some k → x8.heap.size ≤ k) := Lib.hid (fun k e => (World.ownsRow.lt HG.out k e).1)
    have HX0 := Lib.hid (And.intro (gM.cell (HX0.out.1) (fun e => by have h9 : x8.heap.size ≤ w.heap.size := HR.out _ e.symm; omega)) (And.intro (gM.cell (HX0.out.2.1) (fun e => by have h9 : x8.heap.size ≤ w.heap.size := HR.out _ e.symm; omega)) (And.intro (gM.cell (HX0.out.2.2.1) (fun e => by have h9 : x8.heap.size ≤ w.heap.size := HR.out _ e.symm; omega)) (gM.cell (HX0.out.2.2.2) (fun e => by have h9 : x8.heap.size ≤ w.heap.size := HR.out _ e.symm; omega)))))
    have HY0 := Lib.hid (Flds.holds_grown HY0.out gM (fun k e => by have := HR.out k e; omega))
    have HY1 := Lib.hid (Strs.holds_grown HY1.out gM (fun k e => by have := HR.out k e; omega))
    have HWW := Lib.hid (Flds.holds_grown HWW.out gM (fun k e => by have := HR.out k e; omega))
    have HB := Lib.hid (HB.out.grown gM HB.out.size (fun k e => by have := HR.out k e; omega))
    have HG := Lib.hid oM
    clear oM gM HR
    have hk2 : ¬ ((1 + g0.length * 2 : Nat) : Int) < 0 := by omega
    go_wp2_with (fail)
    go_at_call 24
    refine (Flds.held_flds _ vG 1 g0.length _ (Flds.own_holds HG.out) (by omega) (by have := HK.out; omega)).mono ?_
    rintro e x18 ⟨rfl, b18⟩
    have hs18 := b18.size
    have HX0 := Lib.hid (And.intro ((b18.cell (p := ⟨w.heap.size, 0, none⟩) (Rec.lt_of_cell (HX0.out.1))).trans (HX0.out.1)) (And.intro ((b18.cell (p := ⟨w.heap.size, 1, none⟩) (Rec.lt_of_cell (HX0.out.2.1))).trans (HX0.out.2.1)) (And.intro ((b18.cell (p := ⟨w.heap.size, 2, none⟩) (Rec.lt_of_cell (HX0.out.2.2.1))).trans (HX0.out.2.2.1)) ((b18.cell (p := ⟨w.heap.size, 3, none⟩) (Rec.lt_of_cell (HX0.out.2.2.2))).trans (HX0.out.2.2.2)))))
    have HY0 := Lib.hid (Flds.holds_below HY0.out (b18.mono (by omega)))
    have HY1 := Lib.hid (Strs.holds_below HY1.out (b18.mono (by omega)))
    have HWW := Lib.hid (Flds.holds_below HWW.out (b18.mono (by omega)))
    have HG := Lib.hid (Flds.row_below HG.out b18)
    have HB := Lib.hid (Base.then_below HB.out b18)
    clear b18
    have HX0o := HX0.out
    obtain ⟨hx0_0, hx0_1, hx0_2, hx0_3⟩ := HX0o
    go_wp2_with (fail)
    go_at_call 19
    refine (Msg.copy_req m0 h0 t0 u0 l0 w.heap.size _ HY0.out (by have h9 := HB.out.size; omega) HL0.out).mono ?_
    rintro e x19 ⟨vP, rfl, oP, b19⟩
    have hs19 := b19.size
    obtain ⟨aP, cpP, rfl, _⟩ := Rec.shape_at oP
    clear hx0_0 hx0_1 hx0_2 hx0_3
    have HX0 := Lib.hid (And.intro ((b19.cell (p := ⟨w.heap.size, 0, none⟩) (Rec.lt_of_cell (HX0.out.1))).trans (HX0.out.1)) (And.intro ((b19.cell (p := ⟨w.heap.size, 1, none⟩) (Rec.lt_of_cell (HX0.out.2.1))).trans (HX0.out.2.1)) (And.intro ((b19.cell (p := ⟨w.heap.size, 2, none⟩) (Rec.lt_of_cell (HX0.out.2.2.1))).trans (HX0.out.2.2.1)) ((b19.cell (p := ⟨w.heap.size, 3, none⟩) (Rec.lt_of_cell (HX0.out.2.2.2))).trans (HX0.out.2.2.2)))))
    have HY0 := Lib.hid (Flds.holds_below HY0.out (b19.mono (by omega)))
    have HY1 := Lib.hid (Strs.holds_below HY1.out (b19.mono (by omega)))
    have HWW := Lib.hid (Flds.holds_below HWW.out (b19.mono (by omega)))
    have HG := Lib.hid (Flds.row_below HG.out b19)
    have HB := Lib.hid (Base.then_below HB.out b19)
    clear b19
    have HP := Lib.hid (Flds.own_holds oP)
    clear oP
    go_wp2_with (fail)
    go_at_call 20
    refine (Strs.copy _ _ z1 _ HY1.out (by have := HL1.out; omega)).mono ?_
    rintro e x20 ⟨nP, rfl, pP, b20⟩
    have hs20 := b20.size
    have HX0 := Lib.hid (And.intro ((b20.cell (p := ⟨w.heap.size, 0, none⟩) (Rec.lt_of_cell (HX0.out.1))).trans (HX0.out.1)) (And.intro ((b20.cell (p := ⟨w.heap.size, 1, none⟩) (Rec.lt_of_cell (HX0.out.2.1))).trans (HX0.out.2.1)) (And.intro ((b20.cell (p := ⟨w.heap.size, 2, none⟩) (Rec.lt_of_cell (HX0.out.2.2.1))).trans (HX0.out.2.2.1)) ((b20.cell (p := ⟨w.heap.size, 3, none⟩) (Rec.lt_of_cell (HX0.out.2.2.2))).trans (HX0.out.2.2.2)))))
    have HY0 := Lib.hid (Flds.holds_below HY0.out (b20.mono (by omega)))
    have HY1 := Lib.hid (Strs.holds_below HY1.out (b20.mono (by omega)))
    have HWW := Lib.hid (Flds.holds_below HWW.out (b20.mono (by omega)))
    have HG := Lib.hid (Flds.row_below HG.out b20)
    have HP := Lib.hid (Flds.holds_below HP.out (b20.mono (by omega)))
    have HB := Lib.hid (Base.then_below HB.out b20)
    clear b20
    have HPn := Lib.hid (Strs.own_holds pP)
    clear pP
    go_wp2_with (fail)
    go_at_call 21
    refine (Sel.impl_sof m0 h0 t0 (.slice aP l0.length cpP) _ l0 nP _ z1 _ HP.out (by omega) HT0.out HPn.out (by omega) HL1.out).mono ?_
    rintro e x21 ⟨vH, rfl, oH, b21⟩
    rw [← HGG.out] at oH
    have hs21 := b21.size
    have HWW := Lib.hid (Flds.holds_below HWW.out (b21.mono (by omega)))
    have HG := Lib.hid (Flds.row_below HG.out b21)
    have HB := Lib.hid (Base.then_below HB.out b21)
    clear b21
    have HH := Lib.hid (Flds.own_holds oH)
    clear oH
    go_wp2_with (fail)
    go_at_call 12
    refine (Flds.eq_same vH vW _ _ g0 _ HH.out HWW.out HK.out).mono ?_
    rintro e x22 ⟨rfl, b22⟩
    have hs22 := b22.size
    have HG := Lib.hid (Flds.row_below HG.out b22)
    have HB := Lib.hid (Base.then_below HB.out b22)
    clear b22
    go_wp2_with (fail)
    go_at_call 24
    refine (Flds.held_flds _ vG 1 g0.length _ (Flds.own_holds HG.out) (by omega) (by have := HK.out; omega)).mono ?_
    rintro e x23 ⟨rfl, b23⟩
    have hs23 := b23.size
    have HG := Lib.hid (Flds.row_below HG.out b23)
    have HB := Lib.hid (Base.then_below HB.out b23)
    clear b23
    go_wp2
    go_ret
    exact ⟨rfl, HB.out⟩)

set_option maxRecDepth 100000 in
theorem lifted (os : Os) (started : os.Started) (H : Type) (enc : TypeId × Value → H) :
    ReturnsInHanded {} Tryd.checked os 4 .any (fun w args => (Rows.fnExactSelectingOfSpec.pre enc Tryd.prog Tryd.f4 [] false w args ∧ laidMetH Tryd.prog Rows.fnExactSelectingOfRow.laid w) ∧ sizedMet enc Tryd.prog Tryd.f4 (OpenSpec.ofChange Rows.fnExactSelectingOfSpec) false w args)
      (Rows.fnExactSelectingOfSpec.post enc Tryd.prog Tryd.f4 false true false false) := by
  refine returnsInHanded_of_change_and (C := Tryd.checked) (X := fun w _ => laidMetH Tryd.prog Rows.fnExactSelectingOfRow.laid w) (fun _ _ _ hh h => h.of_heap hh) own started (by kernel_rfl) Tryd.func4
    (ChangeSpec.witness_shaped (enc := enc) (C := Tryd.checked) (os := os) (X := fun w _ => laidMetH Tryd.prog Rows.fnExactSelectingOfRow.laid w) false (World.laidAll Tryd.prog os Rows.fnExactSelectingOfRow.laid) #[.agg #[.string ⟨#[]⟩, .string ⟨#[]⟩, .string ⟨#[]⟩, .slice none 0 0], .slice none 0 0] 8 (World.laidAll_os _ _ _) (World.shaped_of_ZipB (by kernel_rfl) (by kernel_rfl)) (by kernel_rfl) (by kernel_rfl) (by kernel_rfl)
      (by rw [MakeChecks.laidMetH_plain _ _ _ (by kernel_rfl)]; exact laidMet_laidAll _ (by kernel_rfl) (by kernel_rfl))) ?_
  intro W base args ds gs before hval0 hW _ _ hL _
  have hval : ∀ (j : Nat) t v, Tryd.f4.params[j]? = some t → args[j]? = some v → Value.okWide Tryd.prog W .any base t v := hval0
  have hW' := hW
  obtain ⟨p, q, hA0, hV, rfl, hfz, hnd⟩ := hW
  have hA : DataW.TrodAll enc Tryd.prog W 0 (fun _ => true) true Tryd.f4.params.toList args.toList ds p := hA0
  rw [Tryd.params4] at hA hval
  obtain ⟨v0, vs0, d0, ds0, p0, q0, hargs, rfl, rfl, h0, r0⟩ := trodAll_cons hA
  obtain ⟨v1, vs1, d1, ds1, p1, q1, rfl, rfl, rfl, h1, r1⟩ := trodAll_cons r0
  obtain ⟨rfl, rfl, rfl⟩ := trodAll_nil r1
  obtain rfl : args = #[v0, v1] := by cases args; simp_all
  obtain ⟨rfl, rfl⟩ := trodVars_none hV
  have k0 := h0
  obtain ⟨m0, hh0, t0, u0, l0, rfl, y0, w0⟩ := Msg.open_req (hval 0 35 v0 rfl rfl) h0
  have k1 := h1
  obtain ⟨b1, l1, c1, z1, rfl, w11, w12, y1, w13⟩ := Strs.open_arg (hval 1 24 v1 rfl rfl) h1
  have w1 := And.intro w11 (And.intro w12 w13)
  clear hA0 hval0
  simp only [List.append_nil] at hW'
  have hL' : laidMet Tryd.prog Rows.fnExactSelectingOfRow.laid W := by rw [← MakeChecks.laidMetH_plain _ _ _ (by kernel_rfl)]; exact hL
  refine (walk m0 hh0 t0 u0 l0 b1 l1 c1 z1 w0 w1 W y0 y1).mono fun e W' ⟨he, hb⟩ => ?_
  subst he
  exact ⟨_, rfl, ⟨_, _, _, [], _, [], hW', (trodAll_cons_mk (shut_bool Tryd.underlying4 _) trodAll_mk0), (trodAll_cons_mk (Below.trod laidOut (by kernel_rfl) (of_decide_eq_true (by kernel_rfl)) k0 hb (fun x hx => hW'.lt x (by simp [hx]))) (trodAll_cons_mk (Below.trod laidOut (by kernel_rfl) (of_decide_eq_true (by kernel_rfl)) k1 hb (fun x hx => hW'.lt x (by simp [hx]))) trodAll_mk0)), rfl, hb.frame _, fun h => by cases h⟩⟩

theorem over : Rows.fnExactSelectingOfRow.holds Tryd.pinned (OpenSpec.ofChange Rows.fnExactSelectingOfSpec) :=
  OpenClaim.holds_of_wide 4 Tryd.f4 rfl rfl rfl rfl rfl rfl rfl ⟨rfl, rfl, rfl, rfl, rfl⟩ rfl rfl rfl rfl rfl (by kernel_rfl) Tryd.func4 (by kernel_rfl)
    (of_decide_eq_true (by kernel_rfl)) (by unfold Func.isWrapper; first | (rw [if_pos (by decide +kernel)]; kernel_rfl) | (rw [if_neg (by decide +kernel)]; exact ⟨rfl, rfl⟩))
    (fun os started H enc _ => lifted os started H enc)

/-- The given statement: the law's card, tied. -/
theorem proved : Rows.FnExactSelectingOfCardSaid :=
  Claim7.holds_tied_plain_at .later [] _ true _ _
    over (fun _ h => by cases h) (by kernel_rfl) (fun _ h => by cases h) fnExactSelectingOf_row_tie rfl ⟨rfl, rfl⟩ (by kernel_rfl) rfl
    (fun f fn hf hfn => by
      obtain rfl : f = 4 := Option.some.inj ((show Tryd.prog.funcNamed "loop.example/g03012/laws.FnExactSelectingOf" = some 4 by kernel_rfl).symm.trans hf) |>.symm
      obtain rfl : fn = Tryd.f4 := (Option.some.inj (Tryd.func4.symm.trans hfn)).symm
      exact ⟨by kernel_rfl, fun j t ht => by
        rw [Tryd.params4] at ht
        have hm : t ∈ [35, 24] := by simpa using Array.mem_of_getElem? ht
        have hall : ([35, 24].all fun u => !Tryd.prog.wantsStandIn u) = true := by kernel_rfl
        exact (show Tryd.prog.wantsStandIn t = false by simpa using List.all_eq_true.1 hall t hm)⟩)
    (by kernel_rfl)
#print axioms proved
end Go.Proofs.YtcpagkbfcfeocaaDoor.fnExactSelectingOf
