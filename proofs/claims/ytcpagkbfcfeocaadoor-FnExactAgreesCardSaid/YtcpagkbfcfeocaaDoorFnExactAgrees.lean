/-
  PROVED: at any request and any list of fields the program's Agrees returns what its model returns and writes into no argument: the exact law of Agrees returns true and leaves its arguments as they were. CONDITION: the listed package-level variables are as the program's text lays them; the proof does not use what they hold.
-/
import Derived.Test.YtcpagkbfcfeocaaDoorBase
import Derived.Carry
import Derived.Test.YtcpagkbfcfeocaaDoorMsgRq
import Derived.Test.YtcpagkbfcfeocaaDoorAgrI
import Derived.Test.YtcpagkbfcfeocaaDoorFldKit
import Derived.Test.YtcpagkbfcfeocaaDoorFldArg
import Derived.Test.YtcpagkbfcfeocaaDoorFldCopy
import Derived.Test.YtcpagkbfcfeocaaDoorFldEq
import Derived.Test.YtcpagkbfcfeocaaDoorTie
import Derived.Test.YtcpagkbfcfeocaaDoorCards
import Derived.LaidMore
import Derived.Lay
import Derived.OpenVars
import Derived.Stop.LaidErr
namespace Go.Proofs.YtcpagkbfcfeocaaDoor.fnExactAgrees
open Go.ChangeShapes Go.WideShapes Go.ChangeAt Go.RowKit
set_option linter.unusedVariables false

theorem own : ownKnob Tryd.prog.godebug = none := by kernel_rfl

theorem laidOut : laidOutB Tryd.prog = true := by kernel_rfl

set_option maxHeartbeats 4000000 in
theorem walk (m0 : List UInt8) (h0 : List UInt8) (t0 : List UInt8) (u0 : Value) (l0 : List Msg.F) (v1 : Value) (z1 : List Flds.T) (w0 : Msg.Ok_req m0 h0 t0 l0) (w1 : z1.length ≤ maxLen ∧ (∀ f ∈ z1, Flds.Ok f)) (w : World) (y0 : Flds.Holds w w.heap.size u0 l0) (y1 : Flds.Holds w w.heap.size v1 z1) :
    Calls Tryd.prog 5 #[.agg #[.string ⟨m0.toArray⟩, .string ⟨h0.toArray⟩, .string ⟨t0.toArray⟩, u0], v1] w fun e w' => e = .returned (.bool true) ∧ Below w.heap.size w w' := by
  have HW0 := Lib.hid w0
  have HY0 := Lib.hid y0
  clear w0 y0
  have HW1 := Lib.hid w1
  have HY1 := Lib.hid y1
  clear w1 y1
  have HB0' : Below w.heap.size w (w.alloc (.cells #[.string ⟨m0.toArray⟩, .string ⟨h0.toArray⟩, .string ⟨t0.toArray⟩, u0] 35)) := ((Below.refl w.heap.size w)).alloc (by simp) (.cells #[.string ⟨m0.toArray⟩, .string ⟨h0.toArray⟩, .string ⟨t0.toArray⟩, u0] 35)
  have hz0' : w.heap.size < (w.alloc (.cells #[.string ⟨m0.toArray⟩, .string ⟨h0.toArray⟩, .string ⟨t0.toArray⟩, u0] 35)).heap.size := by simp
  have HX0 : Hid ((w.alloc (.cells #[.string ⟨m0.toArray⟩, .string ⟨h0.toArray⟩, .string ⟨t0.toArray⟩, u0] 35)).cell? ⟨w.heap.size, 0, none⟩ = some (.string ⟨m0.toArray⟩) ∧ (w.alloc (.cells #[.string ⟨m0.toArray⟩, .string ⟨h0.toArray⟩, .string ⟨t0.toArray⟩, u0] 35)).cell? ⟨w.heap.size, 1, none⟩ = some (.string ⟨h0.toArray⟩) ∧ (w.alloc (.cells #[.string ⟨m0.toArray⟩, .string ⟨h0.toArray⟩, .string ⟨t0.toArray⟩, u0] 35)).cell? ⟨w.heap.size, 2, none⟩ = some (.string ⟨t0.toArray⟩) ∧ (w.alloc (.cells #[.string ⟨m0.toArray⟩, .string ⟨h0.toArray⟩, .string ⟨t0.toArray⟩, u0] 35)).cell? ⟨w.heap.size, 3, none⟩ = some (u0)) := Lib.hid ⟨by rw [World.cell?_alloc_new]; rfl, by rw [World.cell?_alloc_new]; rfl, by rw [World.cell?_alloc_new]; rfl, by rw [World.cell?_alloc_new]; rfl⟩
  have HB := Lib.hid HB0'
  have HY0 := Lib.hid (Flds.holds_below HY0.out (HB.out.mono (Nat.le_refl _)))
  have HY1 := Lib.hid (Flds.holds_below HY1.out (HB.out.mono (Nat.le_refl _)))
  have hszw := HB.out.size
  clear HB0'
  go_enter Tryd.func5, Tryd.ntmps5
  have HX0o := HX0.out
  obtain ⟨hx0_0, hx0_1, hx0_2, hx0_3⟩ := HX0o
  go_wp2_with (fail)
  go_at_call 16
  refine (Msg.size_req m0 h0 t0 u0 l0 _ w.heap.size _ HY0.out (by omega) HW0.out (by decide) (by decide)).mono ?_
  rintro e x1 ⟨z_0, rfl, hz0, b1⟩
  have hs1 := b1.size
  clear hx0_0 hx0_1 hx0_2 hx0_3
  have HX0 := Lib.hid (And.intro ((b1.cell (p := ⟨w.heap.size, 0, none⟩) (Rec.lt_of_cell (HX0.out.1))).trans (HX0.out.1)) (And.intro ((b1.cell (p := ⟨w.heap.size, 1, none⟩) (Rec.lt_of_cell (HX0.out.2.1))).trans (HX0.out.2.1)) (And.intro ((b1.cell (p := ⟨w.heap.size, 2, none⟩) (Rec.lt_of_cell (HX0.out.2.2.1))).trans (HX0.out.2.2.1)) ((b1.cell (p := ⟨w.heap.size, 3, none⟩) (Rec.lt_of_cell (HX0.out.2.2.2))).trans (HX0.out.2.2.2)))))
  have HY0 := Lib.hid (Flds.holds_below HY0.out (b1.mono (by omega)))
  have HY1 := Lib.hid (Flds.holds_below HY1.out (b1.mono (by omega)))
  have HB := Lib.hid (Base.then_below HB.out b1)
  clear b1
  rcases hz0 with hz0 | ⟨hz0, ht0⟩
  · go_wp2
    go_ret
    exact ⟨rfl, HB.out⟩
  have hzn0 : ¬ z_0 < 0 := by omega
  have HZ0 : Hid (z_0 + (((Flds.total l0 + m0.length + h0.length + t0.length) : Nat) : Int) = 1048576) := Lib.hid (by omega)
  clear ht0
  go_wp2_with (fail)
  go_at_call 7
  refine (Flds.size_any _ _ z1 z_0 _ HY1.out HW1.out.1 HW1.out.2 hz0 (by have := HZ0.out; omega)).mono ?_
  rintro e x2 ⟨z_1, rfl, hz1, b2⟩
  have hs2 := b2.size
  have HX0 := Lib.hid (And.intro ((b2.cell (p := ⟨w.heap.size, 0, none⟩) (Rec.lt_of_cell (HX0.out.1))).trans (HX0.out.1)) (And.intro ((b2.cell (p := ⟨w.heap.size, 1, none⟩) (Rec.lt_of_cell (HX0.out.2.1))).trans (HX0.out.2.1)) (And.intro ((b2.cell (p := ⟨w.heap.size, 2, none⟩) (Rec.lt_of_cell (HX0.out.2.2.1))).trans (HX0.out.2.2.1)) ((b2.cell (p := ⟨w.heap.size, 3, none⟩) (Rec.lt_of_cell (HX0.out.2.2.2))).trans (HX0.out.2.2.2)))))
  have HY0 := Lib.hid (Flds.holds_below HY0.out (b2.mono (by omega)))
  have HY1 := Lib.hid (Flds.holds_below HY1.out (b2.mono (by omega)))
  have HB := Lib.hid (Base.then_below HB.out b2)
  clear b2
  rcases hz1 with hz1 | ⟨hz1, ht1⟩
  · go_wp2
    go_ret
    exact ⟨rfl, HB.out⟩
  have hzn1 : ¬ z_1 < 0 := by omega
  have HZ1 : Hid (z_1 + (((Flds.total l0 + m0.length + h0.length + t0.length) + Flds.total z1 : Nat) : Int) = 1048576) := Lib.hid (by have := HZ0.out; omega)
  clear ht1
  have HT0 : Hid (Flds.total l0 + m0.length + h0.length + t0.length ≤ 1048576) := Lib.hid (by have := HZ1.out; omega)
  have HL0 : Hid (l0.length ≤ 1048576) := Lib.hid (by have := HT0.out; unfold Flds.total at this; omega)
  have HT1 : Hid (Flds.total z1 ≤ 1048576) := Lib.hid (by have := HZ1.out; omega)
  have HL1 : Hid (z1.length ≤ 1048576) := Lib.hid (Nat.le_trans (Flds.len_le_total z1) HT1.out)
  obtain ⟨r, hr⟩ : ∃ z, z = Sel.agr l0 z1 := ⟨_, rfl⟩
  have HGr := Lib.hid hr
  clear hr
  have HX0o := HX0.out
  obtain ⟨hx0_0, hx0_1, hx0_2, hx0_3⟩ := HX0o
  go_wp2_with (fail)
  go_at_call 19
  refine (Msg.copy_req m0 h0 t0 u0 l0 w.heap.size _ HY0.out (by omega) HL0.out).mono ?_
  rintro e x3 ⟨vA, rfl, oA, b3⟩
  have hs3 := b3.size
  obtain ⟨aA, cpA, rfl, _⟩ := Rec.shape_at oA
  clear hx0_0 hx0_1 hx0_2 hx0_3
  have HX0 := Lib.hid (And.intro ((b3.cell (p := ⟨w.heap.size, 0, none⟩) (Rec.lt_of_cell (HX0.out.1))).trans (HX0.out.1)) (And.intro ((b3.cell (p := ⟨w.heap.size, 1, none⟩) (Rec.lt_of_cell (HX0.out.2.1))).trans (HX0.out.2.1)) (And.intro ((b3.cell (p := ⟨w.heap.size, 2, none⟩) (Rec.lt_of_cell (HX0.out.2.2.1))).trans (HX0.out.2.2.1)) ((b3.cell (p := ⟨w.heap.size, 3, none⟩) (Rec.lt_of_cell (HX0.out.2.2.2))).trans (HX0.out.2.2.2)))))
  have HY0 := Lib.hid (Flds.holds_below HY0.out (b3.mono (by omega)))
  have HY1 := Lib.hid (Flds.holds_below HY1.out (b3.mono (by omega)))
  have HB := Lib.hid (Base.then_below HB.out b3)
  clear b3
  have HA := Lib.hid (Flds.own_holds oA)
  clear oA
  go_wp2_with (fail)
  go_at_call 9
  refine (Flds.copy _ _ _ _ HY1.out HL1.out).mono ?_
  rintro e x4 ⟨vA1, rfl, oA1, b4⟩
  have hs4 := b4.size
  have HX0 := Lib.hid (And.intro ((b4.cell (p := ⟨w.heap.size, 0, none⟩) (Rec.lt_of_cell (HX0.out.1))).trans (HX0.out.1)) (And.intro ((b4.cell (p := ⟨w.heap.size, 1, none⟩) (Rec.lt_of_cell (HX0.out.2.1))).trans (HX0.out.2.1)) (And.intro ((b4.cell (p := ⟨w.heap.size, 2, none⟩) (Rec.lt_of_cell (HX0.out.2.2.1))).trans (HX0.out.2.2.1)) ((b4.cell (p := ⟨w.heap.size, 3, none⟩) (Rec.lt_of_cell (HX0.out.2.2.2))).trans (HX0.out.2.2.2)))))
  have HY0 := Lib.hid (Flds.holds_below HY0.out (b4.mono (by omega)))
  have HY1 := Lib.hid (Flds.holds_below HY1.out (b4.mono (by omega)))
  have HA := Lib.hid (Flds.holds_below HA.out (b4.mono (by omega)))
  have HB := Lib.hid (Base.then_below HB.out b4)
  clear b4
  have HA1 := Lib.hid (Flds.own_holds oA1)
  clear oA1
  go_wp2_with (fail)
  go_at_call 25
  refine (Sel.spec_agr m0 h0 t0 (.slice aA l0.length cpA) _ l0 vA1 _ z1 _ HA.out (by omega) (by have := HT0.out; omega) HA1.out HL1.out).mono ?_
  rintro e x5 ⟨he, b5⟩
  rw [← HGr.out] at he
  subst he
  have hs5 := b5.size
  have HX0 := Lib.hid (And.intro ((b5.cell (p := ⟨w.heap.size, 0, none⟩) (Rec.lt_of_cell (HX0.out.1))).trans (HX0.out.1)) (And.intro ((b5.cell (p := ⟨w.heap.size, 1, none⟩) (Rec.lt_of_cell (HX0.out.2.1))).trans (HX0.out.2.1)) (And.intro ((b5.cell (p := ⟨w.heap.size, 2, none⟩) (Rec.lt_of_cell (HX0.out.2.2.1))).trans (HX0.out.2.2.1)) ((b5.cell (p := ⟨w.heap.size, 3, none⟩) (Rec.lt_of_cell (HX0.out.2.2.2))).trans (HX0.out.2.2.2)))))
  have HY0 := Lib.hid (Flds.holds_below HY0.out (b5.mono (by omega)))
  have HY1 := Lib.hid (Flds.holds_below HY1.out (b5.mono (by omega)))
  have HB := Lib.hid (Base.then_below HB.out b5)
  clear b5
  have HX0o := HX0.out
  obtain ⟨hx0_0, hx0_1, hx0_2, hx0_3⟩ := HX0o
  go_wp2_with (fail)
  go_at_call 19
  refine (Msg.copy_req m0 h0 t0 u0 l0 w.heap.size _ HY0.out (by omega) HL0.out).mono ?_
  rintro e x6 ⟨vX, rfl, oX, b6⟩
  have hs6 := b6.size
  obtain ⟨aX, cpX, rfl, _⟩ := Rec.shape_at oX
  clear hx0_0 hx0_1 hx0_2 hx0_3
  have HX0 := Lib.hid (And.intro ((b6.cell (p := ⟨w.heap.size, 0, none⟩) (Rec.lt_of_cell (HX0.out.1))).trans (HX0.out.1)) (And.intro ((b6.cell (p := ⟨w.heap.size, 1, none⟩) (Rec.lt_of_cell (HX0.out.2.1))).trans (HX0.out.2.1)) (And.intro ((b6.cell (p := ⟨w.heap.size, 2, none⟩) (Rec.lt_of_cell (HX0.out.2.2.1))).trans (HX0.out.2.2.1)) ((b6.cell (p := ⟨w.heap.size, 3, none⟩) (Rec.lt_of_cell (HX0.out.2.2.2))).trans (HX0.out.2.2.2)))))
  have HY0 := Lib.hid (Flds.holds_below HY0.out (b6.mono (by omega)))
  have HY1 := Lib.hid (Flds.holds_below HY1.out (b6.mono (by omega)))
  have HB := Lib.hid (Base.then_below HB.out b6)
  clear b6
  have HX := Lib.hid (Flds.own_holds oX)
  clear oX
  have hsa7 : (x6.alloc (.cells #[.string ⟨m0.toArray⟩, .string ⟨h0.toArray⟩, .string ⟨t0.toArray⟩, (.slice aX l0.length cpX)] 39)).heap.size = x6.heap.size + 1 := by simp
  have HX0 := Lib.hid (And.intro ((((Below.refl x6.heap.size x6).alloc (Nat.le_refl _) (.cells #[.string ⟨m0.toArray⟩, .string ⟨h0.toArray⟩, .string ⟨t0.toArray⟩, (.slice aX l0.length cpX)] 39)).cell (p := ⟨w.heap.size, 0, none⟩) (Rec.lt_of_cell (HX0.out.1))).trans (HX0.out.1)) (And.intro ((((Below.refl x6.heap.size x6).alloc (Nat.le_refl _) (.cells #[.string ⟨m0.toArray⟩, .string ⟨h0.toArray⟩, .string ⟨t0.toArray⟩, (.slice aX l0.length cpX)] 39)).cell (p := ⟨w.heap.size, 1, none⟩) (Rec.lt_of_cell (HX0.out.2.1))).trans (HX0.out.2.1)) (And.intro ((((Below.refl x6.heap.size x6).alloc (Nat.le_refl _) (.cells #[.string ⟨m0.toArray⟩, .string ⟨h0.toArray⟩, .string ⟨t0.toArray⟩, (.slice aX l0.length cpX)] 39)).cell (p := ⟨w.heap.size, 2, none⟩) (Rec.lt_of_cell (HX0.out.2.2.1))).trans (HX0.out.2.2.1)) ((((Below.refl x6.heap.size x6).alloc (Nat.le_refl _) (.cells #[.string ⟨m0.toArray⟩, .string ⟨h0.toArray⟩, .string ⟨t0.toArray⟩, (.slice aX l0.length cpX)] 39)).cell (p := ⟨w.heap.size, 3, none⟩) (Rec.lt_of_cell (HX0.out.2.2.2))).trans (HX0.out.2.2.2)))))
  have HY0 := Lib.hid (Flds.holds_below HY0.out (((Below.refl x6.heap.size x6).alloc (Nat.le_refl _) (.cells #[.string ⟨m0.toArray⟩, .string ⟨h0.toArray⟩, .string ⟨t0.toArray⟩, (.slice aX l0.length cpX)] 39)).mono (by omega)))
  have HY1 := Lib.hid (Flds.holds_below HY1.out (((Below.refl x6.heap.size x6).alloc (Nat.le_refl _) (.cells #[.string ⟨m0.toArray⟩, .string ⟨h0.toArray⟩, .string ⟨t0.toArray⟩, (.slice aX l0.length cpX)] 39)).mono (by omega)))
  have HX := Lib.hid (Flds.holds_below HX.out (((Below.refl x6.heap.size x6).alloc (Nat.le_refl _) (.cells #[.string ⟨m0.toArray⟩, .string ⟨h0.toArray⟩, .string ⟨t0.toArray⟩, (.slice aX l0.length cpX)] 39)).mono (by omega)))
  have HB := Lib.hid (HB.out.alloc HB.out.size (.cells #[.string ⟨m0.toArray⟩, .string ⟨h0.toArray⟩, .string ⟨t0.toArray⟩, (.slice aX l0.length cpX)] 39))
  have HZX : Hid ((x6.alloc (.cells #[.string ⟨m0.toArray⟩, .string ⟨h0.toArray⟩, .string ⟨t0.toArray⟩, (.slice aX l0.length cpX)] 39)).cell? ⟨x6.heap.size, 0, none⟩ = some (.string ⟨m0.toArray⟩) ∧ (x6.alloc (.cells #[.string ⟨m0.toArray⟩, .string ⟨h0.toArray⟩, .string ⟨t0.toArray⟩, (.slice aX l0.length cpX)] 39)).cell? ⟨x6.heap.size, 1, none⟩ = some (.string ⟨h0.toArray⟩) ∧ (x6.alloc (.cells #[.string ⟨m0.toArray⟩, .string ⟨h0.toArray⟩, .string ⟨t0.toArray⟩, (.slice aX l0.length cpX)] 39)).cell? ⟨x6.heap.size, 2, none⟩ = some (.string ⟨t0.toArray⟩) ∧ (x6.alloc (.cells #[.string ⟨m0.toArray⟩, .string ⟨h0.toArray⟩, .string ⟨t0.toArray⟩, (.slice aX l0.length cpX)] 39)).cell? ⟨x6.heap.size, 3, none⟩ = some ((.slice aX l0.length cpX))) := Lib.hid ⟨by rw [World.cell?_alloc_new]; rfl, by rw [World.cell?_alloc_new]; rfl, by rw [World.cell?_alloc_new]; rfl, by rw [World.cell?_alloc_new]; rfl⟩
  go_wp2_with (fail)
  go_at_call 9
  refine (Flds.copy _ _ _ _ HY1.out HL1.out).mono ?_
  rintro e x8 ⟨vX1, rfl, oX1, b8⟩
  have hs8 := b8.size
  have HX0 := Lib.hid (And.intro ((b8.cell (p := ⟨w.heap.size, 0, none⟩) (Rec.lt_of_cell (HX0.out.1))).trans (HX0.out.1)) (And.intro ((b8.cell (p := ⟨w.heap.size, 1, none⟩) (Rec.lt_of_cell (HX0.out.2.1))).trans (HX0.out.2.1)) (And.intro ((b8.cell (p := ⟨w.heap.size, 2, none⟩) (Rec.lt_of_cell (HX0.out.2.2.1))).trans (HX0.out.2.2.1)) ((b8.cell (p := ⟨w.heap.size, 3, none⟩) (Rec.lt_of_cell (HX0.out.2.2.2))).trans (HX0.out.2.2.2)))))
  have HY0 := Lib.hid (Flds.holds_below HY0.out (b8.mono (by omega)))
  have HY1 := Lib.hid (Flds.holds_below HY1.out (b8.mono (by omega)))
  have HX := Lib.hid (Flds.holds_below HX.out (b8.mono (by omega)))
  have HZX := Lib.hid (And.intro ((b8.cell (p := ⟨x6.heap.size, 0, none⟩) (Rec.lt_of_cell (HZX.out.1))).trans (HZX.out.1)) (And.intro ((b8.cell (p := ⟨x6.heap.size, 1, none⟩) (Rec.lt_of_cell (HZX.out.2.1))).trans (HZX.out.2.1)) (And.intro ((b8.cell (p := ⟨x6.heap.size, 2, none⟩) (Rec.lt_of_cell (HZX.out.2.2.1))).trans (HZX.out.2.2.1)) ((b8.cell (p := ⟨x6.heap.size, 3, none⟩) (Rec.lt_of_cell (HZX.out.2.2.2))).trans (HZX.out.2.2.2)))))
  have HB := Lib.hid (Base.then_below HB.out b8)
  clear b8
  have HX1 := Lib.hid (Flds.own_holds oX1)
  clear oX1
  have HZXo := HZX.out
  obtain ⟨hzx_0, hzx_1, hzx_2, hzx_3⟩ := HZXo
  go_wp2_with (fail)
  go_at_call 26
  refine (Sel.impl_agr m0 h0 t0 (.slice aX l0.length cpX) _ l0 vX1 _ z1 _ HX.out (by omega) (by have := HT0.out; omega) HX1.out HL1.out).mono ?_
  rintro e x9 ⟨he, b9⟩
  rw [← HGr.out] at he
  subst he
  have hs9 := b9.size
  clear hzx_0 hzx_1 hzx_2 hzx_3
  have HX0 := Lib.hid (And.intro ((b9.cell (p := ⟨w.heap.size, 0, none⟩) (Rec.lt_of_cell (HX0.out.1))).trans (HX0.out.1)) (And.intro ((b9.cell (p := ⟨w.heap.size, 1, none⟩) (Rec.lt_of_cell (HX0.out.2.1))).trans (HX0.out.2.1)) (And.intro ((b9.cell (p := ⟨w.heap.size, 2, none⟩) (Rec.lt_of_cell (HX0.out.2.2.1))).trans (HX0.out.2.2.1)) ((b9.cell (p := ⟨w.heap.size, 3, none⟩) (Rec.lt_of_cell (HX0.out.2.2.2))).trans (HX0.out.2.2.2)))))
  have HY0 := Lib.hid (Flds.holds_below HY0.out (b9.mono (by omega)))
  have HY1 := Lib.hid (Flds.holds_below HY1.out (b9.mono (by omega)))
  have HX := Lib.hid (Flds.holds_below HX.out (b9.mono (by omega)))
  have HZX := Lib.hid (And.intro ((b9.cell (p := ⟨x6.heap.size, 0, none⟩) (Rec.lt_of_cell (HZX.out.1))).trans (HZX.out.1)) (And.intro ((b9.cell (p := ⟨x6.heap.size, 1, none⟩) (Rec.lt_of_cell (HZX.out.2.1))).trans (HZX.out.2.1)) (And.intro ((b9.cell (p := ⟨x6.heap.size, 2, none⟩) (Rec.lt_of_cell (HZX.out.2.2.1))).trans (HZX.out.2.2.1)) ((b9.cell (p := ⟨x6.heap.size, 3, none⟩) (Rec.lt_of_cell (HZX.out.2.2.2))).trans (HZX.out.2.2.2)))))
  have HX1 := Lib.hid (Flds.holds_below HX1.out (b9.mono (by omega)))
  have HB := Lib.hid (Base.then_below HB.out b9)
  clear b9
  have HX0 : Hid (x9.drew.cell? ⟨w.heap.size, 0, none⟩ = some (.string ⟨m0.toArray⟩) ∧ x9.drew.cell? ⟨w.heap.size, 1, none⟩ = some (.string ⟨h0.toArray⟩) ∧ x9.drew.cell? ⟨w.heap.size, 2, none⟩ = some (.string ⟨t0.toArray⟩) ∧ x9.drew.cell? ⟨w.heap.size, 3, none⟩ = some (u0)) := Lib.hid HX0.out
  have HZX : Hid (x9.drew.cell? ⟨x6.heap.size, 0, none⟩ = some (.string ⟨m0.toArray⟩) ∧ x9.drew.cell? ⟨x6.heap.size, 1, none⟩ = some (.string ⟨h0.toArray⟩) ∧ x9.drew.cell? ⟨x6.heap.size, 2, none⟩ = some (.string ⟨t0.toArray⟩) ∧ x9.drew.cell? ⟨x6.heap.size, 3, none⟩ = some ((.slice aX l0.length cpX))) := Lib.hid HZX.out
  have HY0 : Hid (Flds.Holds x9.drew w.heap.size u0 l0) := Lib.hid HY0.out
  have HX : Hid (Flds.Holds x9.drew _ (.slice aX l0.length cpX) l0) := Lib.hid HX.out
  have HY1 := Lib.hid (Flds.holds_drew HY1.out)
  have HX1 := Lib.hid (Flds.holds_drew HX1.out)
  have HB := Lib.hid (Rec.below_drew HB.out)
  have hdz10 : x9.drew.heap.size = x9.heap.size := rfl
  have qhx0_0 := HX0.out.1
  have qhx0_1 := HX0.out.2.1
  have qhx0_2 := HX0.out.2.2.1
  have qhx0_3 := HX0.out.2.2.2
  have qhzx_0 := HZX.out.1
  have qhzx_1 := HZX.out.2.1
  have qhzx_2 := HZX.out.2.2.1
  have qhzx_3 := HZX.out.2.2.2
  go_wp2
  go_region_with (first | (go_at_call 19; refine (Msg.copy_req m0 h0 t0 u0 l0 w.heap.size _ HY0.out (by have h9 := HB.out.size; omega) HL0.out).mono ?_; rintro e xq ⟨vC, rfl, oC, bq⟩; clear qhx0_0 qhx0_1 qhx0_2 qhx0_3 qhzx_0 qhzx_1 qhzx_2 qhzx_3; have hqz := bq.size; have HX0 := Lib.hid (And.intro ((bq.cell (p := ⟨w.heap.size, 0, none⟩) (Rec.lt_of_cell (HX0.out.1))).trans (HX0.out.1)) (And.intro ((bq.cell (p := ⟨w.heap.size, 1, none⟩) (Rec.lt_of_cell (HX0.out.2.1))).trans (HX0.out.2.1)) (And.intro ((bq.cell (p := ⟨w.heap.size, 2, none⟩) (Rec.lt_of_cell (HX0.out.2.2.1))).trans (HX0.out.2.2.1)) ((bq.cell (p := ⟨w.heap.size, 3, none⟩) (Rec.lt_of_cell (HX0.out.2.2.2))).trans (HX0.out.2.2.2))))); have HZX := Lib.hid (And.intro ((bq.cell (p := ⟨x6.heap.size, 0, none⟩) (Rec.lt_of_cell (HZX.out.1))).trans (HZX.out.1)) (And.intro ((bq.cell (p := ⟨x6.heap.size, 1, none⟩) (Rec.lt_of_cell (HZX.out.2.1))).trans (HZX.out.2.1)) (And.intro ((bq.cell (p := ⟨x6.heap.size, 2, none⟩) (Rec.lt_of_cell (HZX.out.2.2.1))).trans (HZX.out.2.2.1)) ((bq.cell (p := ⟨x6.heap.size, 3, none⟩) (Rec.lt_of_cell (HZX.out.2.2.2))).trans (HZX.out.2.2.2))))); have HY0 := Lib.hid (Flds.holds_below HY0.out (bq.mono (by have h9 := HB.out.size; omega))); have HX := Lib.hid (Flds.holds_below HX.out (bq.mono (by have h9 := HB.out.size; omega))); have HY1 := Lib.hid (Flds.holds_below HY1.out (bq.mono (by have h9 := HB.out.size; omega))); have HX1 := Lib.hid (Flds.holds_below HX1.out (bq.mono (by have h9 := HB.out.size; omega))); have HB := Lib.hid (Base.then_below HB.out bq); have HC := Lib.hid (Flds.own_holds oC); have qhx0_0 := HX0.out.1; have qhx0_1 := HX0.out.2.1; have qhx0_2 := HX0.out.2.2.1; have qhx0_3 := HX0.out.2.2.2; have qhzx_0 := HZX.out.1; have qhzx_1 := HZX.out.2.1; have qhzx_2 := HZX.out.2.2.1; have qhzx_3 := HZX.out.2.2.2; clear bq oC) | (go_at_call 22; refine (Msg.eq_req m0 h0 t0 (.slice aX l0.length cpX) l0 vC _ _ _ HX.out HC.out (by have h9 := HB.out.size; omega) (by omega) HL0.out).mono ?_; rintro e xq ⟨rfl, bq⟩; have hqz := bq.size; have HY1 := Lib.hid (Flds.holds_below HY1.out (bq.mono (by have h9 := HB.out.size; omega))); have HX1 := Lib.hid (Flds.holds_below HX1.out (bq.mono (by have h9 := HB.out.size; omega))); have HB := Lib.hid (Base.then_below HB.out bq); clear bq HX HC qhx0_0 qhx0_1 qhx0_2 qhx0_3 qhzx_0 qhzx_1 qhzx_2 qhzx_3))
  all_goals have hsr10 := HB.out.size
  all_goals (
    go_wp2_with (fail)
    go_at_call 9
    refine (Flds.copy _ _ _ _ HY1.out HL1.out).mono ?_
    rintro e x11 ⟨vC1, rfl, oC1, b11⟩
    have hs11 := b11.size
    have HY1 := Lib.hid (Flds.holds_below HY1.out (b11.mono (by omega)))
    have HX1 := Lib.hid (Flds.holds_below HX1.out (b11.mono (by omega)))
    have HB := Lib.hid (Base.then_below HB.out b11)
    clear b11
    have HC1 := Lib.hid (Flds.own_holds oC1)
    clear oC1
    go_wp2_with (fail)
    go_at_call 12
    refine (Flds.eq_same vX1 vC1 _ _ z1 _ HX1.out HC1.out HL1.out).mono ?_
    rintro e x12 ⟨rfl, b12⟩
    have hs12 := b12.size
    have HY1 := Lib.hid (Flds.holds_below HY1.out (b12.mono (by omega)))
    have HB := Lib.hid (Base.then_below HB.out b12)
    clear b12
    go_wp2
    go_ret
    exact ⟨rfl, HB.out⟩)

set_option maxRecDepth 100000 in
theorem lifted (os : Os) (started : os.Started) (H : Type) (enc : TypeId × Value → H) :
    ReturnsInHanded {} Tryd.checked os 5 .any (fun w args => (Rows.fnExactAgreesSpec.pre enc Tryd.prog Tryd.f5 [] false w args ∧ laidMetH Tryd.prog Rows.fnExactAgreesRow.laid w) ∧ sizedMet enc Tryd.prog Tryd.f5 (OpenSpec.ofChange Rows.fnExactAgreesSpec) false w args)
      (Rows.fnExactAgreesSpec.post enc Tryd.prog Tryd.f5 false true false false) := by
  refine returnsInHanded_of_change_and (C := Tryd.checked) (X := fun w _ => laidMetH Tryd.prog Rows.fnExactAgreesRow.laid w) (fun _ _ _ hh h => h.of_heap hh) own started (by kernel_rfl) Tryd.func5
    (ChangeSpec.witness_shaped (enc := enc) (C := Tryd.checked) (os := os) (X := fun w _ => laidMetH Tryd.prog Rows.fnExactAgreesRow.laid w) false (World.laidAll Tryd.prog os Rows.fnExactAgreesRow.laid) #[.agg #[.string ⟨#[]⟩, .string ⟨#[]⟩, .string ⟨#[]⟩, .slice none 0 0], .slice none 0 0] 8 (World.laidAll_os _ _ _) (World.shaped_of_ZipB (by kernel_rfl) (by kernel_rfl)) (by kernel_rfl) (by kernel_rfl) (by kernel_rfl)
      (by rw [MakeChecks.laidMetH_plain _ _ _ (by kernel_rfl)]; exact laidMet_laidAll _ (by kernel_rfl) (by kernel_rfl))) ?_
  intro W base args ds gs before hval0 hW _ _ hL _
  have hval : ∀ (j : Nat) t v, Tryd.f5.params[j]? = some t → args[j]? = some v → Value.okWide Tryd.prog W .any base t v := hval0
  have hW' := hW
  obtain ⟨p, q, hA0, hV, rfl, hfz, hnd⟩ := hW
  have hA : DataW.TrodAll enc Tryd.prog W 0 (fun _ => true) true Tryd.f5.params.toList args.toList ds p := hA0
  rw [Tryd.params5] at hA hval
  obtain ⟨v0, vs0, d0, ds0, p0, q0, hargs, rfl, rfl, h0, r0⟩ := trodAll_cons hA
  obtain ⟨v1, vs1, d1, ds1, p1, q1, rfl, rfl, rfl, h1, r1⟩ := trodAll_cons r0
  obtain ⟨rfl, rfl, rfl⟩ := trodAll_nil r1
  obtain rfl : args = #[v0, v1] := by cases args; simp_all
  obtain ⟨rfl, rfl⟩ := trodVars_none hV
  have k0 := h0
  obtain ⟨m0, hh0, t0, u0, l0, rfl, y0, w0⟩ := Msg.open_req (hval 0 35 v0 rfl rfl) h0
  have k1 := h1
  obtain ⟨z1, y1, w11, w12⟩ := Flds.open_arg (hval 1 22 v1 rfl rfl) h1
  have w1 := And.intro w11 w12
  clear hA0 hval0
  simp only [List.append_nil] at hW'
  have hL' : laidMet Tryd.prog Rows.fnExactAgreesRow.laid W := by rw [← MakeChecks.laidMetH_plain _ _ _ (by kernel_rfl)]; exact hL
  refine (walk m0 hh0 t0 u0 l0 v1 z1 w0 w1 W y0 y1).mono fun e W' ⟨he, hb⟩ => ?_
  subst he
  exact ⟨_, rfl, ⟨_, _, _, [], _, [], hW', (trodAll_cons_mk (shut_bool Tryd.underlying4 _) trodAll_mk0), (trodAll_cons_mk (Below.trod laidOut (by kernel_rfl) (of_decide_eq_true (by kernel_rfl)) k0 hb (fun x hx => hW'.lt x (by simp [hx]))) (trodAll_cons_mk (Below.trod laidOut (by kernel_rfl) (of_decide_eq_true (by kernel_rfl)) k1 hb (fun x hx => hW'.lt x (by simp [hx]))) trodAll_mk0)), rfl, hb.frame _, fun h => by cases h⟩⟩

theorem over : Rows.fnExactAgreesRow.holds Tryd.pinned (OpenSpec.ofChange Rows.fnExactAgreesSpec) :=
  OpenClaim.holds_of_wide 5 Tryd.f5 rfl rfl rfl rfl rfl rfl rfl ⟨rfl, rfl, rfl, rfl, rfl⟩ rfl rfl rfl rfl rfl (by kernel_rfl) Tryd.func5 (by kernel_rfl)
    (of_decide_eq_true (by kernel_rfl)) (by unfold Func.isWrapper; first | (rw [if_pos (by decide +kernel)]; kernel_rfl) | (rw [if_neg (by decide +kernel)]; exact ⟨rfl, rfl⟩))
    (fun os started H enc _ => lifted os started H enc)

/-- The given statement: the law's card, tied. -/
theorem proved : Rows.FnExactAgreesCardSaid :=
  Claim7.holds_tied_plain_at .later [] _ true _ _
    over (fun _ h => by cases h) (by kernel_rfl) (fun _ h => by cases h) fnExactAgrees_row_tie rfl ⟨rfl, rfl⟩ (by kernel_rfl) rfl
    (fun f fn hf hfn => by
      obtain rfl : f = 5 := Option.some.inj ((show Tryd.prog.funcNamed "loop.example/g03012/laws.FnExactAgrees" = some 5 by kernel_rfl).symm.trans hf) |>.symm
      obtain rfl : fn = Tryd.f5 := (Option.some.inj (Tryd.func5.symm.trans hfn)).symm
      exact ⟨by kernel_rfl, fun j t ht => by
        rw [Tryd.params5] at ht
        have hm : t ∈ [35, 22] := by simpa using Array.mem_of_getElem? ht
        have hall : ([35, 22].all fun u => !Tryd.prog.wantsStandIn u) = true := by kernel_rfl
        exact (show Tryd.prog.wantsStandIn t = false by simpa using List.all_eq_true.1 hall t hm)⟩)
    (by kernel_rfl)
#print axioms proved
end Go.Proofs.YtcpagkbfcfeocaaDoor.fnExactAgrees
