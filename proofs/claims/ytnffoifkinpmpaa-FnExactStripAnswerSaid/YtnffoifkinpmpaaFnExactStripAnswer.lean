/-
  PROVED: at any response the program's StripAnswer returns what its model returns, in memory of its own, and writes into no argument: the exact law of StripAnswer returns true and leaves its argument as it was. CONDITION: none.
-/
import Derived.Test.YtnffoifkinpmpaaBase
import Derived.Carry
import Derived.Test.YtnffoifkinpmpaaMsgRs
import Derived.Test.YtnffoifkinpmpaaStrA
import Derived.Test.YtnffoifkinpmpaaMarkRs
namespace Go.Proofs.Ytnffoifkinpmpaa.fnExactStripAnswer
open Go.ChangeShapes Go.WideShapes Go.ChangeAt Go.RowKit
set_option linter.unusedVariables false
set_option maxRecDepth 1000000

theorem own : ownKnob Try.prog.godebug = none := by kernel_rfl

theorem laidOut : laidOutB Try.prog = true := by kernel_rfl

set_option maxHeartbeats 8000000 in
theorem walk (c0 : Int) (u0 : Value) (l0 : List Msg.F) (b0 : List UInt8) (w0 : Msg.Ok_rsp c0 l0 b0) (w : World) (y0 : Flds.Holds w w.heap.size u0 l0) :
    Calls Try.prog 6 #[.agg #[.int .i64 c0, u0, .string ⟨b0.toArray⟩]] w fun e w' => e = .returned (.bool true) ∧ Below w.heap.size w w' := by
  have HW0 := Lib.hid w0
  have HY0 := Lib.hid y0
  clear w0 y0
  have HB : Hid (Below w.heap.size w (w.alloc (.cells #[.int .i64 c0, u0, .string ⟨b0.toArray⟩] 38))) := Lib.hid ((Below.refl w.heap.size w).alloc (by simp) (.cells #[.int .i64 c0, u0, .string ⟨b0.toArray⟩] 38))
  have hz0' : w.heap.size < (w.alloc (.cells #[.int .i64 c0, u0, .string ⟨b0.toArray⟩] 38)).heap.size := by simp
  have HX0 : Hid ((w.alloc (.cells #[.int .i64 c0, u0, .string ⟨b0.toArray⟩] 38)).cell? ⟨w.heap.size, 0, none⟩ = some (.int .i64 c0) ∧ (w.alloc (.cells #[.int .i64 c0, u0, .string ⟨b0.toArray⟩] 38)).cell? ⟨w.heap.size, 1, none⟩ = some (u0) ∧ (w.alloc (.cells #[.int .i64 c0, u0, .string ⟨b0.toArray⟩] 38)).cell? ⟨w.heap.size, 2, none⟩ = some (.string ⟨b0.toArray⟩)) := Lib.hid ⟨by rw [World.cell?_alloc_new]; rfl, by rw [World.cell?_alloc_new]; rfl, by rw [World.cell?_alloc_new]; rfl⟩
  have HY0 := Lib.hid (Flds.holds_below HY0.out (HB.out.mono (Nat.le_refl _)))
  have hszw := HB.out.size
  go_enter Try.func6, Try.ntmps6
  have HX0o := HX0.out
  obtain ⟨hx0_0, hx0_1, hx0_2⟩ := HX0o
  go_wp2_with (fail)
  go_at_call 21
  refine (Msg.size_rsp c0 u0 l0 b0 _ w.heap.size _ HY0.out (by omega) HW0.out (by decide) (by decide)).mono ?_
  rintro e x1 ⟨z_0, rfl, hz0, b1⟩
  have hs1 := b1.size
  clear hx0_0 hx0_1 hx0_2
  have HX0 := Lib.hid (And.intro ((b1.cell (p := ⟨w.heap.size, 0, none⟩) (Rec.lt_of_cell (HX0.out.1))).trans (HX0.out.1)) (And.intro ((b1.cell (p := ⟨w.heap.size, 1, none⟩) (Rec.lt_of_cell (HX0.out.2.1))).trans (HX0.out.2.1)) ((b1.cell (p := ⟨w.heap.size, 2, none⟩) (Rec.lt_of_cell (HX0.out.2.2))).trans (HX0.out.2.2))))
  have HY0 := Lib.hid (Flds.holds_below HY0.out (b1.mono (by omega)))
  have HB := Lib.hid (Base.then_below HB.out b1)
  clear b1
  rcases hz0 with hz0 | ⟨hz0, ht0⟩
  · go_wp2
    go_ret
    exact ⟨rfl, HB.out⟩
  have hzn0 : ¬ z_0 < 0 := by omega
  have HT0 : Hid (Flds.total l0 ≤ 1048576) := Lib.hid (by omega)
  clear ht0
  have HL0 : Hid (l0.length ≤ 1048576) := Lib.hid (by have := HT0.out; unfold Flds.total at this; omega)
  obtain ⟨g0, hg0⟩ : ∃ z, z = Flds.strip l0 := ⟨_, rfl⟩
  have HGG := Lib.hid hg0
  have HK : Hid (g0.length ≤ 1048577) := Lib.hid (by rw [hg0]; exact Nat.le_trans (Flds.strip_len _) (by have := HL0.out; omega))
  clear hg0
  have HX0o := HX0.out
  obtain ⟨hx0_0, hx0_1, hx0_2⟩ := HX0o
  go_wp2_with (fail)
  go_at_call 23
  refine (Msg.copy_rsp c0 u0 l0 b0 w.heap.size _ HY0.out (by have h9 := HB.out.size; omega) HL0.out).mono ?_
  rintro e x2 ⟨vA, rfl, oA, b2⟩
  have hs2 := b2.size
  obtain ⟨aA, cpA, rfl, _⟩ := Rec.shape_at oA
  clear hx0_0 hx0_1 hx0_2
  have HX0 := Lib.hid (And.intro ((b2.cell (p := ⟨w.heap.size, 0, none⟩) (Rec.lt_of_cell (HX0.out.1))).trans (HX0.out.1)) (And.intro ((b2.cell (p := ⟨w.heap.size, 1, none⟩) (Rec.lt_of_cell (HX0.out.2.1))).trans (HX0.out.2.1)) ((b2.cell (p := ⟨w.heap.size, 2, none⟩) (Rec.lt_of_cell (HX0.out.2.2))).trans (HX0.out.2.2))))
  have HY0 := Lib.hid (Flds.holds_below HY0.out (b2.mono (by omega)))
  have HB := Lib.hid (Base.then_below HB.out b2)
  clear b2
  have HA := Lib.hid (Flds.own_holds oA)
  clear oA
  go_wp2_with (fail)
  go_at_call 22
  refine (Flds.spec_strip c0 (.slice aA l0.length cpA) l0 b0 _ _ HA.out (by omega) HL0.out).mono ?_
  rintro e x3 ⟨vW, rfl, oW, b3⟩
  rw [← HGG.out] at oW
  obtain ⟨aW, cpW, rfl, _⟩ := Rec.shape_at oW
  have hs3 := b3.size
  have HX0 := Lib.hid (And.intro ((b3.cell (p := ⟨w.heap.size, 0, none⟩) (Rec.lt_of_cell (HX0.out.1))).trans (HX0.out.1)) (And.intro ((b3.cell (p := ⟨w.heap.size, 1, none⟩) (Rec.lt_of_cell (HX0.out.2.1))).trans (HX0.out.2.1)) ((b3.cell (p := ⟨w.heap.size, 2, none⟩) (Rec.lt_of_cell (HX0.out.2.2))).trans (HX0.out.2.2))))
  have HY0 := Lib.hid (Flds.holds_below HY0.out (b3.mono (by omega)))
  have HB := Lib.hid (Base.then_below HB.out b3)
  clear b3
  have HWW := Lib.hid (Flds.own_holds oW)
  clear oW
  have hsa4 : (x3.alloc (.cells #[.int .i64 c0, (.slice aW g0.length cpW), .string ⟨b0.toArray⟩] 42)).heap.size = x3.heap.size + 1 := by simp
  have HX0 := Lib.hid (And.intro ((((Below.refl x3.heap.size x3).alloc (Nat.le_refl _) (.cells #[.int .i64 c0, (.slice aW g0.length cpW), .string ⟨b0.toArray⟩] 42)).cell (p := ⟨w.heap.size, 0, none⟩) (Rec.lt_of_cell (HX0.out.1))).trans (HX0.out.1)) (And.intro ((((Below.refl x3.heap.size x3).alloc (Nat.le_refl _) (.cells #[.int .i64 c0, (.slice aW g0.length cpW), .string ⟨b0.toArray⟩] 42)).cell (p := ⟨w.heap.size, 1, none⟩) (Rec.lt_of_cell (HX0.out.2.1))).trans (HX0.out.2.1)) ((((Below.refl x3.heap.size x3).alloc (Nat.le_refl _) (.cells #[.int .i64 c0, (.slice aW g0.length cpW), .string ⟨b0.toArray⟩] 42)).cell (p := ⟨w.heap.size, 2, none⟩) (Rec.lt_of_cell (HX0.out.2.2))).trans (HX0.out.2.2))))
  have HY0 := Lib.hid (Flds.holds_below HY0.out (((Below.refl x3.heap.size x3).alloc (Nat.le_refl _) (.cells #[.int .i64 c0, (.slice aW g0.length cpW), .string ⟨b0.toArray⟩] 42)).mono (by omega)))
  have HWW := Lib.hid (Flds.holds_below HWW.out (((Below.refl x3.heap.size x3).alloc (Nat.le_refl _) (.cells #[.int .i64 c0, (.slice aW g0.length cpW), .string ⟨b0.toArray⟩] 42)).mono (by omega)))
  have HB := Lib.hid (HB.out.alloc HB.out.size (.cells #[.int .i64 c0, (.slice aW g0.length cpW), .string ⟨b0.toArray⟩] 42))
  have HZW : Hid ((x3.alloc (.cells #[.int .i64 c0, (.slice aW g0.length cpW), .string ⟨b0.toArray⟩] 42)).cell? ⟨x3.heap.size, 0, none⟩ = some (.int .i64 c0) ∧ (x3.alloc (.cells #[.int .i64 c0, (.slice aW g0.length cpW), .string ⟨b0.toArray⟩] 42)).cell? ⟨x3.heap.size, 1, none⟩ = some ((.slice aW g0.length cpW)) ∧ (x3.alloc (.cells #[.int .i64 c0, (.slice aW g0.length cpW), .string ⟨b0.toArray⟩] 42)).cell? ⟨x3.heap.size, 2, none⟩ = some (.string ⟨b0.toArray⟩)) := Lib.hid ⟨by rw [World.cell?_alloc_new]; rfl, by rw [World.cell?_alloc_new]; rfl, by rw [World.cell?_alloc_new]; rfl⟩
  have HX0o := HX0.out
  obtain ⟨hx0_0, hx0_1, hx0_2⟩ := HX0o
  go_wp2_with (fail)
  go_at_call 23
  refine (Msg.copy_rsp c0 u0 l0 b0 w.heap.size _ HY0.out (by have h9 := HB.out.size; omega) HL0.out).mono ?_
  rintro e x5 ⟨vX, rfl, oX, b5⟩
  have hs5 := b5.size
  obtain ⟨aX, cpX, rfl, _⟩ := Rec.shape_at oX
  clear hx0_0 hx0_1 hx0_2
  have HX0 := Lib.hid (And.intro ((b5.cell (p := ⟨w.heap.size, 0, none⟩) (Rec.lt_of_cell (HX0.out.1))).trans (HX0.out.1)) (And.intro ((b5.cell (p := ⟨w.heap.size, 1, none⟩) (Rec.lt_of_cell (HX0.out.2.1))).trans (HX0.out.2.1)) ((b5.cell (p := ⟨w.heap.size, 2, none⟩) (Rec.lt_of_cell (HX0.out.2.2))).trans (HX0.out.2.2))))
  have HY0 := Lib.hid (Flds.holds_below HY0.out (b5.mono (by omega)))
  have HWW := Lib.hid (Flds.holds_below HWW.out (b5.mono (by omega)))
  have HZW := Lib.hid (And.intro ((b5.cell (p := ⟨x3.heap.size, 0, none⟩) (Rec.lt_of_cell (HZW.out.1))).trans (HZW.out.1)) (And.intro ((b5.cell (p := ⟨x3.heap.size, 1, none⟩) (Rec.lt_of_cell (HZW.out.2.1))).trans (HZW.out.2.1)) ((b5.cell (p := ⟨x3.heap.size, 2, none⟩) (Rec.lt_of_cell (HZW.out.2.2))).trans (HZW.out.2.2))))
  have HB := Lib.hid (Base.then_below HB.out b5)
  clear b5
  have HX := Lib.hid (oX)
  clear oX
  have HRX : Hid (∀ k, Value.ownBlock (.slice aX l0.length cpX) = some k → k < x5.heap.size) := Lib.hid (fun k e => (World.ownsRow.lt HX.out k e).2)
  have hsa6 : (x5.alloc (.cells #[.int .i64 c0, (.slice aX l0.length cpX), .string ⟨b0.toArray⟩] 42)).heap.size = x5.heap.size + 1 := by simp
  have HX0 := Lib.hid (And.intro ((((Below.refl x5.heap.size x5).alloc (Nat.le_refl _) (.cells #[.int .i64 c0, (.slice aX l0.length cpX), .string ⟨b0.toArray⟩] 42)).cell (p := ⟨w.heap.size, 0, none⟩) (Rec.lt_of_cell (HX0.out.1))).trans (HX0.out.1)) (And.intro ((((Below.refl x5.heap.size x5).alloc (Nat.le_refl _) (.cells #[.int .i64 c0, (.slice aX l0.length cpX), .string ⟨b0.toArray⟩] 42)).cell (p := ⟨w.heap.size, 1, none⟩) (Rec.lt_of_cell (HX0.out.2.1))).trans (HX0.out.2.1)) ((((Below.refl x5.heap.size x5).alloc (Nat.le_refl _) (.cells #[.int .i64 c0, (.slice aX l0.length cpX), .string ⟨b0.toArray⟩] 42)).cell (p := ⟨w.heap.size, 2, none⟩) (Rec.lt_of_cell (HX0.out.2.2))).trans (HX0.out.2.2))))
  have HY0 := Lib.hid (Flds.holds_below HY0.out (((Below.refl x5.heap.size x5).alloc (Nat.le_refl _) (.cells #[.int .i64 c0, (.slice aX l0.length cpX), .string ⟨b0.toArray⟩] 42)).mono (by omega)))
  have HWW := Lib.hid (Flds.holds_below HWW.out (((Below.refl x5.heap.size x5).alloc (Nat.le_refl _) (.cells #[.int .i64 c0, (.slice aX l0.length cpX), .string ⟨b0.toArray⟩] 42)).mono (by omega)))
  have HZW := Lib.hid (And.intro ((((Below.refl x5.heap.size x5).alloc (Nat.le_refl _) (.cells #[.int .i64 c0, (.slice aX l0.length cpX), .string ⟨b0.toArray⟩] 42)).cell (p := ⟨x3.heap.size, 0, none⟩) (Rec.lt_of_cell (HZW.out.1))).trans (HZW.out.1)) (And.intro ((((Below.refl x5.heap.size x5).alloc (Nat.le_refl _) (.cells #[.int .i64 c0, (.slice aX l0.length cpX), .string ⟨b0.toArray⟩] 42)).cell (p := ⟨x3.heap.size, 1, none⟩) (Rec.lt_of_cell (HZW.out.2.1))).trans (HZW.out.2.1)) ((((Below.refl x5.heap.size x5).alloc (Nat.le_refl _) (.cells #[.int .i64 c0, (.slice aX l0.length cpX), .string ⟨b0.toArray⟩] 42)).cell (p := ⟨x3.heap.size, 2, none⟩) (Rec.lt_of_cell (HZW.out.2.2))).trans (HZW.out.2.2))))
  have HX := Lib.hid (Flds.row_below HX.out ((Below.refl x5.heap.size x5).alloc (Nat.le_refl _) (.cells #[.int .i64 c0, (.slice aX l0.length cpX), .string ⟨b0.toArray⟩] 42)))
  have HB := Lib.hid (HB.out.alloc HB.out.size (.cells #[.int .i64 c0, (.slice aX l0.length cpX), .string ⟨b0.toArray⟩] 42))
  have HZX : Hid ((x5.alloc (.cells #[.int .i64 c0, (.slice aX l0.length cpX), .string ⟨b0.toArray⟩] 42)).cell? ⟨x5.heap.size, 0, none⟩ = some (.int .i64 c0) ∧ (x5.alloc (.cells #[.int .i64 c0, (.slice aX l0.length cpX), .string ⟨b0.toArray⟩] 42)).cell? ⟨x5.heap.size, 1, none⟩ = some ((.slice aX l0.length cpX)) ∧ (x5.alloc (.cells #[.int .i64 c0, (.slice aX l0.length cpX), .string ⟨b0.toArray⟩] 42)).cell? ⟨x5.heap.size, 2, none⟩ = some (.string ⟨b0.toArray⟩)) := Lib.hid ⟨by rw [World.cell?_alloc_new]; rfl, by rw [World.cell?_alloc_new]; rfl, by rw [World.cell?_alloc_new]; rfl⟩
  have HZXo := HZX.out
  obtain ⟨hzx_0, hzx_1, hzx_2⟩ := HZXo
  go_wp2_with (fail)
  go_at_call 24
  refine (Flds.impl_strip c0 (.slice aX l0.length cpX) l0 b0 _ _ (Flds.own_holds HX.out) (by omega) HL0.out).mono ?_
  rintro e x7 ⟨vG, rfl, oG, b7⟩
  rw [← HGG.out] at oG
  obtain ⟨aG, cpG, rfl, _⟩ := Rec.shape_at oG
  have hs7 := b7.size
  have NG_X : Hid (∀ g, Value.ownBlock (.slice aG g0.length cpG) = some g → some g ≠ Value.ownBlock (.slice aX l0.length cpX)) := Lib.hid (fun g hg hx => by have q1 := (World.ownsRow.lt oG g hg).1; have q2 := (World.ownsRow.lt HX.out g hx.symm).2; omega)
  have HX0 := Lib.hid (And.intro ((b7.cell (p := ⟨w.heap.size, 0, none⟩) (Rec.lt_of_cell (HX0.out.1))).trans (HX0.out.1)) (And.intro ((b7.cell (p := ⟨w.heap.size, 1, none⟩) (Rec.lt_of_cell (HX0.out.2.1))).trans (HX0.out.2.1)) ((b7.cell (p := ⟨w.heap.size, 2, none⟩) (Rec.lt_of_cell (HX0.out.2.2))).trans (HX0.out.2.2))))
  have HY0 := Lib.hid (Flds.holds_below HY0.out (b7.mono (by omega)))
  have HWW := Lib.hid (Flds.holds_below HWW.out (b7.mono (by omega)))
  have HZW := Lib.hid (And.intro ((b7.cell (p := ⟨x3.heap.size, 0, none⟩) (Rec.lt_of_cell (HZW.out.1))).trans (HZW.out.1)) (And.intro ((b7.cell (p := ⟨x3.heap.size, 1, none⟩) (Rec.lt_of_cell (HZW.out.2.1))).trans (HZW.out.2.1)) ((b7.cell (p := ⟨x3.heap.size, 2, none⟩) (Rec.lt_of_cell (HZW.out.2.2))).trans (HZW.out.2.2))))
  have HX := Lib.hid (Flds.row_below HX.out b7)
  have HZX := Lib.hid (And.intro ((b7.cell (p := ⟨x5.heap.size, 0, none⟩) (Rec.lt_of_cell (HZX.out.1))).trans (HZX.out.1)) (And.intro ((b7.cell (p := ⟨x5.heap.size, 1, none⟩) (Rec.lt_of_cell (HZX.out.2.1))).trans (HZX.out.2.1)) ((b7.cell (p := ⟨x5.heap.size, 2, none⟩) (Rec.lt_of_cell (HZX.out.2.2))).trans (HZX.out.2.2))))
  have HB := Lib.hid (Base.then_below HB.out b7)
  clear b7
  clear hzx_0 hzx_1 hzx_2
  have HG := Lib.hid oG
  clear oG
  have HRG : Hid (∀ k, Value.ownBlock (.slice aG g0.length cpG) = some k → k < x7.heap.size) := Lib.hid (fun k e => (World.ownsRow.lt HG.out k e).2)
  have hsa8 : (x7.alloc (.cells #[.int .i64 c0, (.slice aG g0.length cpG), .string ⟨b0.toArray⟩] 42)).heap.size = x7.heap.size + 1 := by simp
  have HX0 := Lib.hid (And.intro ((((Below.refl x7.heap.size x7).alloc (Nat.le_refl _) (.cells #[.int .i64 c0, (.slice aG g0.length cpG), .string ⟨b0.toArray⟩] 42)).cell (p := ⟨w.heap.size, 0, none⟩) (Rec.lt_of_cell (HX0.out.1))).trans (HX0.out.1)) (And.intro ((((Below.refl x7.heap.size x7).alloc (Nat.le_refl _) (.cells #[.int .i64 c0, (.slice aG g0.length cpG), .string ⟨b0.toArray⟩] 42)).cell (p := ⟨w.heap.size, 1, none⟩) (Rec.lt_of_cell (HX0.out.2.1))).trans (HX0.out.2.1)) ((((Below.refl x7.heap.size x7).alloc (Nat.le_refl _) (.cells #[.int .i64 c0, (.slice aG g0.length cpG), .string ⟨b0.toArray⟩] 42)).cell (p := ⟨w.heap.size, 2, none⟩) (Rec.lt_of_cell (HX0.out.2.2))).trans (HX0.out.2.2))))
  have HY0 := Lib.hid (Flds.holds_below HY0.out (((Below.refl x7.heap.size x7).alloc (Nat.le_refl _) (.cells #[.int .i64 c0, (.slice aG g0.length cpG), .string ⟨b0.toArray⟩] 42)).mono (by omega)))
  have HWW := Lib.hid (Flds.holds_below HWW.out (((Below.refl x7.heap.size x7).alloc (Nat.le_refl _) (.cells #[.int .i64 c0, (.slice aG g0.length cpG), .string ⟨b0.toArray⟩] 42)).mono (by omega)))
  have HZW := Lib.hid (And.intro ((((Below.refl x7.heap.size x7).alloc (Nat.le_refl _) (.cells #[.int .i64 c0, (.slice aG g0.length cpG), .string ⟨b0.toArray⟩] 42)).cell (p := ⟨x3.heap.size, 0, none⟩) (Rec.lt_of_cell (HZW.out.1))).trans (HZW.out.1)) (And.intro ((((Below.refl x7.heap.size x7).alloc (Nat.le_refl _) (.cells #[.int .i64 c0, (.slice aG g0.length cpG), .string ⟨b0.toArray⟩] 42)).cell (p := ⟨x3.heap.size, 1, none⟩) (Rec.lt_of_cell (HZW.out.2.1))).trans (HZW.out.2.1)) ((((Below.refl x7.heap.size x7).alloc (Nat.le_refl _) (.cells #[.int .i64 c0, (.slice aG g0.length cpG), .string ⟨b0.toArray⟩] 42)).cell (p := ⟨x3.heap.size, 2, none⟩) (Rec.lt_of_cell (HZW.out.2.2))).trans (HZW.out.2.2))))
  have HX := Lib.hid (Flds.row_below HX.out ((Below.refl x7.heap.size x7).alloc (Nat.le_refl _) (.cells #[.int .i64 c0, (.slice aG g0.length cpG), .string ⟨b0.toArray⟩] 42)))
  have HZX := Lib.hid (And.intro ((((Below.refl x7.heap.size x7).alloc (Nat.le_refl _) (.cells #[.int .i64 c0, (.slice aG g0.length cpG), .string ⟨b0.toArray⟩] 42)).cell (p := ⟨x5.heap.size, 0, none⟩) (Rec.lt_of_cell (HZX.out.1))).trans (HZX.out.1)) (And.intro ((((Below.refl x7.heap.size x7).alloc (Nat.le_refl _) (.cells #[.int .i64 c0, (.slice aG g0.length cpG), .string ⟨b0.toArray⟩] 42)).cell (p := ⟨x5.heap.size, 1, none⟩) (Rec.lt_of_cell (HZX.out.2.1))).trans (HZX.out.2.1)) ((((Below.refl x7.heap.size x7).alloc (Nat.le_refl _) (.cells #[.int .i64 c0, (.slice aG g0.length cpG), .string ⟨b0.toArray⟩] 42)).cell (p := ⟨x5.heap.size, 2, none⟩) (Rec.lt_of_cell (HZX.out.2.2))).trans (HZX.out.2.2))))
  have HG := Lib.hid (Flds.row_below HG.out ((Below.refl x7.heap.size x7).alloc (Nat.le_refl _) (.cells #[.int .i64 c0, (.slice aG g0.length cpG), .string ⟨b0.toArray⟩] 42)))
  have HB := Lib.hid (HB.out.alloc HB.out.size (.cells #[.int .i64 c0, (.slice aG g0.length cpG), .string ⟨b0.toArray⟩] 42))
  have HZG : Hid ((x7.alloc (.cells #[.int .i64 c0, (.slice aG g0.length cpG), .string ⟨b0.toArray⟩] 42)).cell? ⟨x7.heap.size, 0, none⟩ = some (.int .i64 c0) ∧ (x7.alloc (.cells #[.int .i64 c0, (.slice aG g0.length cpG), .string ⟨b0.toArray⟩] 42)).cell? ⟨x7.heap.size, 1, none⟩ = some ((.slice aG g0.length cpG)) ∧ (x7.alloc (.cells #[.int .i64 c0, (.slice aG g0.length cpG), .string ⟨b0.toArray⟩] 42)).cell? ⟨x7.heap.size, 2, none⟩ = some (.string ⟨b0.toArray⟩)) := Lib.hid ⟨by rw [World.cell?_alloc_new]; rfl, by rw [World.cell?_alloc_new]; rfl, by rw [World.cell?_alloc_new]; rfl⟩
  have HZGo := HZG.out
  obtain ⟨hzg_0, hzg_1, hzg_2⟩ := HZGo
  have HZWo := HZW.out
  obtain ⟨hzw_0, hzw_1, hzw_2⟩ := HZWo
  go_wp2_with (fail)
  go_at_call 25
  refine (Msg.eq_rsp_wide c0 (.slice aG g0.length cpG) g0 b0 (.slice aW g0.length cpW) _ _ _ (Flds.own_holds HG.out) HWW.out (by omega) (by omega) (by have := HK.out; omega)).mono ?_
  rintro e x9 ⟨rfl, b9⟩
  have hs9 := b9.size
  clear hzg_0 hzg_1 hzg_2
  clear hzw_0 hzw_1 hzw_2
  have HX0 := Lib.hid (And.intro ((b9.cell (p := ⟨w.heap.size, 0, none⟩) (Rec.lt_of_cell (HX0.out.1))).trans (HX0.out.1)) (And.intro ((b9.cell (p := ⟨w.heap.size, 1, none⟩) (Rec.lt_of_cell (HX0.out.2.1))).trans (HX0.out.2.1)) ((b9.cell (p := ⟨w.heap.size, 2, none⟩) (Rec.lt_of_cell (HX0.out.2.2))).trans (HX0.out.2.2))))
  have HY0 := Lib.hid (Flds.holds_below HY0.out (b9.mono (by omega)))
  have HWW := Lib.hid (Flds.holds_below HWW.out (b9.mono (by omega)))
  have HZW := Lib.hid (And.intro ((b9.cell (p := ⟨x3.heap.size, 0, none⟩) (Rec.lt_of_cell (HZW.out.1))).trans (HZW.out.1)) (And.intro ((b9.cell (p := ⟨x3.heap.size, 1, none⟩) (Rec.lt_of_cell (HZW.out.2.1))).trans (HZW.out.2.1)) ((b9.cell (p := ⟨x3.heap.size, 2, none⟩) (Rec.lt_of_cell (HZW.out.2.2))).trans (HZW.out.2.2))))
  have HX := Lib.hid (Flds.row_below HX.out b9)
  have HZX := Lib.hid (And.intro ((b9.cell (p := ⟨x5.heap.size, 0, none⟩) (Rec.lt_of_cell (HZX.out.1))).trans (HZX.out.1)) (And.intro ((b9.cell (p := ⟨x5.heap.size, 1, none⟩) (Rec.lt_of_cell (HZX.out.2.1))).trans (HZX.out.2.1)) ((b9.cell (p := ⟨x5.heap.size, 2, none⟩) (Rec.lt_of_cell (HZX.out.2.2))).trans (HZX.out.2.2))))
  have HG := Lib.hid (Flds.row_below HG.out b9)
  have HZG := Lib.hid (And.intro ((b9.cell (p := ⟨x7.heap.size, 0, none⟩) (Rec.lt_of_cell (HZG.out.1))).trans (HZG.out.1)) (And.intro ((b9.cell (p := ⟨x7.heap.size, 1, none⟩) (Rec.lt_of_cell (HZG.out.2.1))).trans (HZG.out.2.1)) ((b9.cell (p := ⟨x7.heap.size, 2, none⟩) (Rec.lt_of_cell (HZG.out.2.2))).trans (HZG.out.2.2))))
  have HB := Lib.hid (Base.then_below HB.out b9)
  clear b9
  have HX0 : Hid (x9.drew.cell? ⟨w.heap.size, 0, none⟩ = some (.int .i64 c0) ∧ x9.drew.cell? ⟨w.heap.size, 1, none⟩ = some (u0) ∧ x9.drew.cell? ⟨w.heap.size, 2, none⟩ = some (.string ⟨b0.toArray⟩)) := Lib.hid HX0.out
  have HZW : Hid (x9.drew.cell? ⟨x3.heap.size, 0, none⟩ = some (.int .i64 c0) ∧ x9.drew.cell? ⟨x3.heap.size, 1, none⟩ = some ((.slice aW g0.length cpW)) ∧ x9.drew.cell? ⟨x3.heap.size, 2, none⟩ = some (.string ⟨b0.toArray⟩)) := Lib.hid HZW.out
  have HX := Lib.hid (World.ownsRow.drew HX.out)
  have HZX : Hid (x9.drew.cell? ⟨x5.heap.size, 0, none⟩ = some (.int .i64 c0) ∧ x9.drew.cell? ⟨x5.heap.size, 1, none⟩ = some ((.slice aX l0.length cpX)) ∧ x9.drew.cell? ⟨x5.heap.size, 2, none⟩ = some (.string ⟨b0.toArray⟩)) := Lib.hid HZX.out
  have HG := Lib.hid (World.ownsRow.drew HG.out)
  have HZG : Hid (x9.drew.cell? ⟨x7.heap.size, 0, none⟩ = some (.int .i64 c0) ∧ x9.drew.cell? ⟨x7.heap.size, 1, none⟩ = some ((.slice aG g0.length cpG)) ∧ x9.drew.cell? ⟨x7.heap.size, 2, none⟩ = some (.string ⟨b0.toArray⟩)) := Lib.hid HZG.out
  have HY0 : Hid (Flds.Holds x9.drew w.heap.size u0 l0) := Lib.hid HY0.out
  have HWW : Hid (Flds.Holds x9.drew _ (.slice aW g0.length cpW) g0) := Lib.hid HWW.out
  have HB := Lib.hid (Rec.below_drew HB.out)
  have hdz10 : x9.drew.heap.size = x9.heap.size := rfl
  have qhx0_0 := HX0.out.1
  have qhx0_1 := HX0.out.2.1
  have qhx0_2 := HX0.out.2.2
  have qhzx_0 := HZX.out.1
  have qhzx_1 := HZX.out.2.1
  have qhzx_2 := HZX.out.2.2
  go_wp2
  go_region_with (first | (go_at_call 23; refine (Msg.copy_rsp c0 u0 l0 b0 w.heap.size _ HY0.out (by have h9 := HB.out.size; omega) HL0.out).mono ?_; rintro e xq ⟨vC, rfl, oC, bq⟩; clear qhx0_0 qhx0_1 qhx0_2 qhzx_0 qhzx_1 qhzx_2; have hqz := bq.size; have HX0 := Lib.hid (And.intro ((bq.cell (p := ⟨w.heap.size, 0, none⟩) (Rec.lt_of_cell (HX0.out.1))).trans (HX0.out.1)) (And.intro ((bq.cell (p := ⟨w.heap.size, 1, none⟩) (Rec.lt_of_cell (HX0.out.2.1))).trans (HX0.out.2.1)) ((bq.cell (p := ⟨w.heap.size, 2, none⟩) (Rec.lt_of_cell (HX0.out.2.2))).trans (HX0.out.2.2)))); have HY0 := Lib.hid (Flds.holds_below HY0.out (bq.mono (by have h9 := HB.out.size; omega))); have HWW := Lib.hid (Flds.holds_below HWW.out (bq.mono (by have h9 := HB.out.size; omega))); have HZW := Lib.hid (And.intro ((bq.cell (p := ⟨x3.heap.size, 0, none⟩) (Rec.lt_of_cell (HZW.out.1))).trans (HZW.out.1)) (And.intro ((bq.cell (p := ⟨x3.heap.size, 1, none⟩) (Rec.lt_of_cell (HZW.out.2.1))).trans (HZW.out.2.1)) ((bq.cell (p := ⟨x3.heap.size, 2, none⟩) (Rec.lt_of_cell (HZW.out.2.2))).trans (HZW.out.2.2)))); have HX := Lib.hid (Flds.row_below HX.out bq); have HZX := Lib.hid (And.intro ((bq.cell (p := ⟨x5.heap.size, 0, none⟩) (Rec.lt_of_cell (HZX.out.1))).trans (HZX.out.1)) (And.intro ((bq.cell (p := ⟨x5.heap.size, 1, none⟩) (Rec.lt_of_cell (HZX.out.2.1))).trans (HZX.out.2.1)) ((bq.cell (p := ⟨x5.heap.size, 2, none⟩) (Rec.lt_of_cell (HZX.out.2.2))).trans (HZX.out.2.2)))); have HG := Lib.hid (Flds.row_below HG.out bq); have HZG := Lib.hid (And.intro ((bq.cell (p := ⟨x7.heap.size, 0, none⟩) (Rec.lt_of_cell (HZG.out.1))).trans (HZG.out.1)) (And.intro ((bq.cell (p := ⟨x7.heap.size, 1, none⟩) (Rec.lt_of_cell (HZG.out.2.1))).trans (HZG.out.2.1)) ((bq.cell (p := ⟨x7.heap.size, 2, none⟩) (Rec.lt_of_cell (HZG.out.2.2))).trans (HZG.out.2.2)))); have HB := Lib.hid (Base.then_below HB.out bq); have HC := Lib.hid (Flds.own_holds oC); have qhx0_0 := HX0.out.1; have qhx0_1 := HX0.out.2.1; have qhx0_2 := HX0.out.2.2; have qhzx_0 := HZX.out.1; have qhzx_1 := HZX.out.2.1; have qhzx_2 := HZX.out.2.2; clear bq oC) | (go_at_call 25; refine (Msg.eq_rsp c0 (.slice aX l0.length cpX) l0 b0 vC _ _ _ (Flds.own_holds HX.out) HC.out (by omega) (by omega) HL0.out).mono ?_; rintro e xq ⟨rfl, bq⟩; clear qhx0_0 qhx0_1 qhx0_2 qhzx_0 qhzx_1 qhzx_2; have hqz := bq.size; have HX0 := Lib.hid (And.intro ((bq.cell (p := ⟨w.heap.size, 0, none⟩) (Rec.lt_of_cell (HX0.out.1))).trans (HX0.out.1)) (And.intro ((bq.cell (p := ⟨w.heap.size, 1, none⟩) (Rec.lt_of_cell (HX0.out.2.1))).trans (HX0.out.2.1)) ((bq.cell (p := ⟨w.heap.size, 2, none⟩) (Rec.lt_of_cell (HX0.out.2.2))).trans (HX0.out.2.2)))); have HY0 := Lib.hid (Flds.holds_below HY0.out (bq.mono (by have h9 := HB.out.size; omega))); have HWW := Lib.hid (Flds.holds_below HWW.out (bq.mono (by have h9 := HB.out.size; omega))); have HZW := Lib.hid (And.intro ((bq.cell (p := ⟨x3.heap.size, 0, none⟩) (Rec.lt_of_cell (HZW.out.1))).trans (HZW.out.1)) (And.intro ((bq.cell (p := ⟨x3.heap.size, 1, none⟩) (Rec.lt_of_cell (HZW.out.2.1))).trans (HZW.out.2.1)) ((bq.cell (p := ⟨x3.heap.size, 2, none⟩) (Rec.lt_of_cell (HZW.out.2.2))).trans (HZW.out.2.2)))); have HX := Lib.hid (Flds.row_below HX.out bq); have HZX := Lib.hid (And.intro ((bq.cell (p := ⟨x5.heap.size, 0, none⟩) (Rec.lt_of_cell (HZX.out.1))).trans (HZX.out.1)) (And.intro ((bq.cell (p := ⟨x5.heap.size, 1, none⟩) (Rec.lt_of_cell (HZX.out.2.1))).trans (HZX.out.2.1)) ((bq.cell (p := ⟨x5.heap.size, 2, none⟩) (Rec.lt_of_cell (HZX.out.2.2))).trans (HZX.out.2.2)))); have HG := Lib.hid (Flds.row_below HG.out bq); have HZG := Lib.hid (And.intro ((bq.cell (p := ⟨x7.heap.size, 0, none⟩) (Rec.lt_of_cell (HZG.out.1))).trans (HZG.out.1)) (And.intro ((bq.cell (p := ⟨x7.heap.size, 1, none⟩) (Rec.lt_of_cell (HZG.out.2.1))).trans (HZG.out.2.1)) ((bq.cell (p := ⟨x7.heap.size, 2, none⟩) (Rec.lt_of_cell (HZG.out.2.2))).trans (HZG.out.2.2)))); have HB := Lib.hid (Base.then_below HB.out bq); clear bq HC))
  all_goals have hsr10 := HB.out.size
  all_goals (
    have HZXo := HZX.out
    obtain ⟨hzx_0, hzx_1, hzx_2⟩ := HZXo
    go_wp2_with (fail)
    go_at_call 26
    refine (Mark.mark_rsp c0 b0 _ (.slice aX l0.length cpX) l0 1 _ HX.out (by omega) (by omega) (by have := HL0.out; omega)).mono ?_
    rintro e x11 ⟨rfl, oM, gM⟩
    have hs11 := gM.size
    have HR : Hid (∀ k, Value.ownBlock (.slice aX l0.length cpX) = some k → (x3.alloc (.cells #[.int .i64 c0, (.slice aW g0.length cpW), .string ⟨b0.toArray⟩] 42)).heap.size ≤ k) := Lib.hid (fun k e => (World.ownsRow.lt HX.out k e).1)
    have HX0 := Lib.hid (And.intro (gM.cell (HX0.out.1) (fun e => by have h9 : (x3.alloc (.cells #[.int .i64 c0, (.slice aW g0.length cpW), .string ⟨b0.toArray⟩] 42)).heap.size ≤ w.heap.size := HR.out _ e.symm; omega)) (And.intro (gM.cell (HX0.out.2.1) (fun e => by have h9 : (x3.alloc (.cells #[.int .i64 c0, (.slice aW g0.length cpW), .string ⟨b0.toArray⟩] 42)).heap.size ≤ w.heap.size := HR.out _ e.symm; omega)) (gM.cell (HX0.out.2.2) (fun e => by have h9 : (x3.alloc (.cells #[.int .i64 c0, (.slice aW g0.length cpW), .string ⟨b0.toArray⟩] 42)).heap.size ≤ w.heap.size := HR.out _ e.symm; omega))))
    have HY0 := Lib.hid (Flds.holds_grown HY0.out gM (fun k e => by have := HR.out k e; omega))
    have HWW := Lib.hid (Flds.holds_grown HWW.out gM (fun k e => by have := HR.out k e; omega))
    have HZW := Lib.hid (And.intro (gM.cell (HZW.out.1) (fun e => by have h9 : (x3.alloc (.cells #[.int .i64 c0, (.slice aW g0.length cpW), .string ⟨b0.toArray⟩] 42)).heap.size ≤ x3.heap.size := HR.out _ e.symm; omega)) (And.intro (gM.cell (HZW.out.2.1) (fun e => by have h9 : (x3.alloc (.cells #[.int .i64 c0, (.slice aW g0.length cpW), .string ⟨b0.toArray⟩] 42)).heap.size ≤ x3.heap.size := HR.out _ e.symm; omega)) (gM.cell (HZW.out.2.2) (fun e => by have h9 : (x3.alloc (.cells #[.int .i64 c0, (.slice aW g0.length cpW), .string ⟨b0.toArray⟩] 42)).heap.size ≤ x3.heap.size := HR.out _ e.symm; omega))))
    have HG := Lib.hid (Flds.row_grown HG.out gM NG_X.out)
    have HZG := Lib.hid (And.intro (gM.cell (HZG.out.1) (fun e => by have h9 : x7.heap.size < _ := HRX.out _ e.symm; omega)) (And.intro (gM.cell (HZG.out.2.1) (fun e => by have h9 : x7.heap.size < _ := HRX.out _ e.symm; omega)) (gM.cell (HZG.out.2.2) (fun e => by have h9 : x7.heap.size < _ := HRX.out _ e.symm; omega))))
    have HB := Lib.hid (HB.out.grown gM HB.out.size (fun k e => by have := HR.out k e; omega))
    have HX := Lib.hid oM
    clear oM gM HR
    clear hzx_0 hzx_1 hzx_2
    have hk1 : ¬ ((1 + l0.length * 2 : Nat) : Int) < 0 := by omega
    have HZGo := HZG.out
    obtain ⟨hzg_0, hzg_1, hzg_2⟩ := HZGo
    have HZWo := HZW.out
    obtain ⟨hzw_0, hzw_1, hzw_2⟩ := HZWo
    go_wp2_with (fail)
    go_at_call 25
    refine (Msg.eq_rsp_wide c0 (.slice aG g0.length cpG) g0 b0 (.slice aW g0.length cpW) _ _ _ (Flds.own_holds HG.out) HWW.out (by omega) (by omega) (by have := HK.out; omega)).mono ?_
    rintro e x12 ⟨rfl, b12⟩
    have hs12 := b12.size
    clear hzg_0 hzg_1 hzg_2
    clear hzw_0 hzw_1 hzw_2
    have HX0 := Lib.hid (And.intro ((b12.cell (p := ⟨w.heap.size, 0, none⟩) (Rec.lt_of_cell (HX0.out.1))).trans (HX0.out.1)) (And.intro ((b12.cell (p := ⟨w.heap.size, 1, none⟩) (Rec.lt_of_cell (HX0.out.2.1))).trans (HX0.out.2.1)) ((b12.cell (p := ⟨w.heap.size, 2, none⟩) (Rec.lt_of_cell (HX0.out.2.2))).trans (HX0.out.2.2))))
    have HY0 := Lib.hid (Flds.holds_below HY0.out (b12.mono (by omega)))
    have HWW := Lib.hid (Flds.holds_below HWW.out (b12.mono (by omega)))
    have HZW := Lib.hid (And.intro ((b12.cell (p := ⟨x3.heap.size, 0, none⟩) (Rec.lt_of_cell (HZW.out.1))).trans (HZW.out.1)) (And.intro ((b12.cell (p := ⟨x3.heap.size, 1, none⟩) (Rec.lt_of_cell (HZW.out.2.1))).trans (HZW.out.2.1)) ((b12.cell (p := ⟨x3.heap.size, 2, none⟩) (Rec.lt_of_cell (HZW.out.2.2))).trans (HZW.out.2.2))))
    have HG := Lib.hid (Flds.row_below HG.out b12)
    have HZG := Lib.hid (And.intro ((b12.cell (p := ⟨x7.heap.size, 0, none⟩) (Rec.lt_of_cell (HZG.out.1))).trans (HZG.out.1)) (And.intro ((b12.cell (p := ⟨x7.heap.size, 1, none⟩) (Rec.lt_of_cell (HZG.out.2.1))).trans (HZG.out.2.1)) ((b12.cell (p := ⟨x7.heap.size, 2, none⟩) (Rec.lt_of_cell (HZG.out.2.2))).trans (HZG.out.2.2))))
    have HB := Lib.hid (Base.then_below HB.out b12)
    clear b12
    have HZGo := HZG.out
    obtain ⟨hzg_0, hzg_1, hzg_2⟩ := HZGo
    go_wp2_with (fail)
    go_at_call 26
    refine (Mark.mark_rsp c0 b0 _ (.slice aG g0.length cpG) g0 1 _ HG.out (by omega) (by omega) (by have := HK.out; omega)).mono ?_
    rintro e x13 ⟨rfl, oM, gM⟩
    have hs13 := gM.size
    have HR : Hid (∀ k, Value.ownBlock (.slice aG g0.length cpG) = some k → (x5.alloc (.cells #[.int .i64 c0, (.slice aX l0.length cpX), .string ⟨b0.toArray⟩] 42)).heap.size ≤ k) := Lib.hid (fun k e => (World.ownsRow.lt HG.out k e).1)
    have HX0 := Lib.hid (And.intro (gM.cell (HX0.out.1) (fun e => by have h9 : (x5.alloc (.cells #[.int .i64 c0, (.slice aX l0.length cpX), .string ⟨b0.toArray⟩] 42)).heap.size ≤ w.heap.size := HR.out _ e.symm; omega)) (And.intro (gM.cell (HX0.out.2.1) (fun e => by have h9 : (x5.alloc (.cells #[.int .i64 c0, (.slice aX l0.length cpX), .string ⟨b0.toArray⟩] 42)).heap.size ≤ w.heap.size := HR.out _ e.symm; omega)) (gM.cell (HX0.out.2.2) (fun e => by have h9 : (x5.alloc (.cells #[.int .i64 c0, (.slice aX l0.length cpX), .string ⟨b0.toArray⟩] 42)).heap.size ≤ w.heap.size := HR.out _ e.symm; omega))))
    have HY0 := Lib.hid (Flds.holds_grown HY0.out gM (fun k e => by have := HR.out k e; omega))
    have HWW := Lib.hid (Flds.holds_grown HWW.out gM (fun k e => by have := HR.out k e; omega))
    have HZW := Lib.hid (And.intro (gM.cell (HZW.out.1) (fun e => by have h9 : (x5.alloc (.cells #[.int .i64 c0, (.slice aX l0.length cpX), .string ⟨b0.toArray⟩] 42)).heap.size ≤ x3.heap.size := HR.out _ e.symm; omega)) (And.intro (gM.cell (HZW.out.2.1) (fun e => by have h9 : (x5.alloc (.cells #[.int .i64 c0, (.slice aX l0.length cpX), .string ⟨b0.toArray⟩] 42)).heap.size ≤ x3.heap.size := HR.out _ e.symm; omega)) (gM.cell (HZW.out.2.2) (fun e => by have h9 : (x5.alloc (.cells #[.int .i64 c0, (.slice aX l0.length cpX), .string ⟨b0.toArray⟩] 42)).heap.size ≤ x3.heap.size := HR.out _ e.symm; omega))))
    have HZG := Lib.hid (And.intro (gM.cell (HZG.out.1) (fun e => by have h9 : x7.heap.size < _ := HRG.out _ e.symm; omega)) (And.intro (gM.cell (HZG.out.2.1) (fun e => by have h9 : x7.heap.size < _ := HRG.out _ e.symm; omega)) (gM.cell (HZG.out.2.2) (fun e => by have h9 : x7.heap.size < _ := HRG.out _ e.symm; omega))))
    have HB := Lib.hid (HB.out.grown gM HB.out.size (fun k e => by have := HR.out k e; omega))
    have HG := Lib.hid oM
    clear oM gM HR
    clear hzg_0 hzg_1 hzg_2
    have hk2 : ¬ ((1 + g0.length * 2 : Nat) : Int) < 0 := by omega
    have HZGo := HZG.out
    obtain ⟨hzg_0, hzg_1, hzg_2⟩ := HZGo
    go_wp2_with (fail)
    go_at_call 27
    refine (Mark.held_rsp c0 b0 _ (.slice aG g0.length cpG) 1 g0.length _ (Flds.own_holds HG.out) (by omega) (by omega) (by have := HK.out; omega)).mono ?_
    rintro e x14 ⟨rfl, b14⟩
    have hs14 := b14.size
    clear hzg_0 hzg_1 hzg_2
    have HX0 := Lib.hid (And.intro ((b14.cell (p := ⟨w.heap.size, 0, none⟩) (Rec.lt_of_cell (HX0.out.1))).trans (HX0.out.1)) (And.intro ((b14.cell (p := ⟨w.heap.size, 1, none⟩) (Rec.lt_of_cell (HX0.out.2.1))).trans (HX0.out.2.1)) ((b14.cell (p := ⟨w.heap.size, 2, none⟩) (Rec.lt_of_cell (HX0.out.2.2))).trans (HX0.out.2.2))))
    have HY0 := Lib.hid (Flds.holds_below HY0.out (b14.mono (by omega)))
    have HWW := Lib.hid (Flds.holds_below HWW.out (b14.mono (by omega)))
    have HZW := Lib.hid (And.intro ((b14.cell (p := ⟨x3.heap.size, 0, none⟩) (Rec.lt_of_cell (HZW.out.1))).trans (HZW.out.1)) (And.intro ((b14.cell (p := ⟨x3.heap.size, 1, none⟩) (Rec.lt_of_cell (HZW.out.2.1))).trans (HZW.out.2.1)) ((b14.cell (p := ⟨x3.heap.size, 2, none⟩) (Rec.lt_of_cell (HZW.out.2.2))).trans (HZW.out.2.2))))
    have HZG := Lib.hid (And.intro ((b14.cell (p := ⟨x7.heap.size, 0, none⟩) (Rec.lt_of_cell (HZG.out.1))).trans (HZG.out.1)) (And.intro ((b14.cell (p := ⟨x7.heap.size, 1, none⟩) (Rec.lt_of_cell (HZG.out.2.1))).trans (HZG.out.2.1)) ((b14.cell (p := ⟨x7.heap.size, 2, none⟩) (Rec.lt_of_cell (HZG.out.2.2))).trans (HZG.out.2.2))))
    have HG := Lib.hid (Flds.row_below HG.out b14)
    have HB := Lib.hid (Base.then_below HB.out b14)
    clear b14
    have HX0o := HX0.out
    obtain ⟨hx0_0, hx0_1, hx0_2⟩ := HX0o
    go_wp2_with (fail)
    go_at_call 23
    refine (Msg.copy_rsp c0 u0 l0 b0 w.heap.size _ HY0.out (by have h9 := HB.out.size; omega) HL0.out).mono ?_
    rintro e x15 ⟨vP, rfl, oP, b15⟩
    have hs15 := b15.size
    obtain ⟨aP, cpP, rfl, _⟩ := Rec.shape_at oP
    clear hx0_0 hx0_1 hx0_2
    have HX0 := Lib.hid (And.intro ((b15.cell (p := ⟨w.heap.size, 0, none⟩) (Rec.lt_of_cell (HX0.out.1))).trans (HX0.out.1)) (And.intro ((b15.cell (p := ⟨w.heap.size, 1, none⟩) (Rec.lt_of_cell (HX0.out.2.1))).trans (HX0.out.2.1)) ((b15.cell (p := ⟨w.heap.size, 2, none⟩) (Rec.lt_of_cell (HX0.out.2.2))).trans (HX0.out.2.2))))
    have HY0 := Lib.hid (Flds.holds_below HY0.out (b15.mono (by omega)))
    have HWW := Lib.hid (Flds.holds_below HWW.out (b15.mono (by omega)))
    have HZW := Lib.hid (And.intro ((b15.cell (p := ⟨x3.heap.size, 0, none⟩) (Rec.lt_of_cell (HZW.out.1))).trans (HZW.out.1)) (And.intro ((b15.cell (p := ⟨x3.heap.size, 1, none⟩) (Rec.lt_of_cell (HZW.out.2.1))).trans (HZW.out.2.1)) ((b15.cell (p := ⟨x3.heap.size, 2, none⟩) (Rec.lt_of_cell (HZW.out.2.2))).trans (HZW.out.2.2))))
    have HZG := Lib.hid (And.intro ((b15.cell (p := ⟨x7.heap.size, 0, none⟩) (Rec.lt_of_cell (HZG.out.1))).trans (HZG.out.1)) (And.intro ((b15.cell (p := ⟨x7.heap.size, 1, none⟩) (Rec.lt_of_cell (HZG.out.2.1))).trans (HZG.out.2.1)) ((b15.cell (p := ⟨x7.heap.size, 2, none⟩) (Rec.lt_of_cell (HZG.out.2.2))).trans (HZG.out.2.2))))
    have HG := Lib.hid (Flds.row_below HG.out b15)
    have HB := Lib.hid (Base.then_below HB.out b15)
    clear b15
    have HP := Lib.hid (Flds.own_holds oP)
    clear oP
    go_wp2_with (fail)
    go_at_call 24
    refine (Flds.impl_strip c0 (.slice aP l0.length cpP) l0 b0 _ _ HP.out (by omega) HL0.out).mono ?_
    rintro e x16 ⟨vH, rfl, oH, b16⟩
    rw [← HGG.out] at oH
    obtain ⟨aH, cpH, rfl, _⟩ := Rec.shape_at oH
    have hs16 := b16.size
    have HWW := Lib.hid (Flds.holds_below HWW.out (b16.mono (by omega)))
    have HZW := Lib.hid (And.intro ((b16.cell (p := ⟨x3.heap.size, 0, none⟩) (Rec.lt_of_cell (HZW.out.1))).trans (HZW.out.1)) (And.intro ((b16.cell (p := ⟨x3.heap.size, 1, none⟩) (Rec.lt_of_cell (HZW.out.2.1))).trans (HZW.out.2.1)) ((b16.cell (p := ⟨x3.heap.size, 2, none⟩) (Rec.lt_of_cell (HZW.out.2.2))).trans (HZW.out.2.2))))
    have HZG := Lib.hid (And.intro ((b16.cell (p := ⟨x7.heap.size, 0, none⟩) (Rec.lt_of_cell (HZG.out.1))).trans (HZG.out.1)) (And.intro ((b16.cell (p := ⟨x7.heap.size, 1, none⟩) (Rec.lt_of_cell (HZG.out.2.1))).trans (HZG.out.2.1)) ((b16.cell (p := ⟨x7.heap.size, 2, none⟩) (Rec.lt_of_cell (HZG.out.2.2))).trans (HZG.out.2.2))))
    have HG := Lib.hid (Flds.row_below HG.out b16)
    have HB := Lib.hid (Base.then_below HB.out b16)
    clear b16
    have HH := Lib.hid (Flds.own_holds oH)
    clear oH
    have hsa17 : (x16.alloc (.cells #[.int .i64 c0, (.slice aH g0.length cpH), .string ⟨b0.toArray⟩] 42)).heap.size = x16.heap.size + 1 := by simp
    have HWW := Lib.hid (Flds.holds_below HWW.out (((Below.refl x16.heap.size x16).alloc (Nat.le_refl _) (.cells #[.int .i64 c0, (.slice aH g0.length cpH), .string ⟨b0.toArray⟩] 42)).mono (by omega)))
    have HZW := Lib.hid (And.intro ((((Below.refl x16.heap.size x16).alloc (Nat.le_refl _) (.cells #[.int .i64 c0, (.slice aH g0.length cpH), .string ⟨b0.toArray⟩] 42)).cell (p := ⟨x3.heap.size, 0, none⟩) (Rec.lt_of_cell (HZW.out.1))).trans (HZW.out.1)) (And.intro ((((Below.refl x16.heap.size x16).alloc (Nat.le_refl _) (.cells #[.int .i64 c0, (.slice aH g0.length cpH), .string ⟨b0.toArray⟩] 42)).cell (p := ⟨x3.heap.size, 1, none⟩) (Rec.lt_of_cell (HZW.out.2.1))).trans (HZW.out.2.1)) ((((Below.refl x16.heap.size x16).alloc (Nat.le_refl _) (.cells #[.int .i64 c0, (.slice aH g0.length cpH), .string ⟨b0.toArray⟩] 42)).cell (p := ⟨x3.heap.size, 2, none⟩) (Rec.lt_of_cell (HZW.out.2.2))).trans (HZW.out.2.2))))
    have HZG := Lib.hid (And.intro ((((Below.refl x16.heap.size x16).alloc (Nat.le_refl _) (.cells #[.int .i64 c0, (.slice aH g0.length cpH), .string ⟨b0.toArray⟩] 42)).cell (p := ⟨x7.heap.size, 0, none⟩) (Rec.lt_of_cell (HZG.out.1))).trans (HZG.out.1)) (And.intro ((((Below.refl x16.heap.size x16).alloc (Nat.le_refl _) (.cells #[.int .i64 c0, (.slice aH g0.length cpH), .string ⟨b0.toArray⟩] 42)).cell (p := ⟨x7.heap.size, 1, none⟩) (Rec.lt_of_cell (HZG.out.2.1))).trans (HZG.out.2.1)) ((((Below.refl x16.heap.size x16).alloc (Nat.le_refl _) (.cells #[.int .i64 c0, (.slice aH g0.length cpH), .string ⟨b0.toArray⟩] 42)).cell (p := ⟨x7.heap.size, 2, none⟩) (Rec.lt_of_cell (HZG.out.2.2))).trans (HZG.out.2.2))))
    have HG := Lib.hid (Flds.row_below HG.out ((Below.refl x16.heap.size x16).alloc (Nat.le_refl _) (.cells #[.int .i64 c0, (.slice aH g0.length cpH), .string ⟨b0.toArray⟩] 42)))
    have HH := Lib.hid (Flds.holds_below HH.out (((Below.refl x16.heap.size x16).alloc (Nat.le_refl _) (.cells #[.int .i64 c0, (.slice aH g0.length cpH), .string ⟨b0.toArray⟩] 42)).mono (by omega)))
    have HB := Lib.hid (HB.out.alloc HB.out.size (.cells #[.int .i64 c0, (.slice aH g0.length cpH), .string ⟨b0.toArray⟩] 42))
    have HZH : Hid ((x16.alloc (.cells #[.int .i64 c0, (.slice aH g0.length cpH), .string ⟨b0.toArray⟩] 42)).cell? ⟨x16.heap.size, 0, none⟩ = some (.int .i64 c0) ∧ (x16.alloc (.cells #[.int .i64 c0, (.slice aH g0.length cpH), .string ⟨b0.toArray⟩] 42)).cell? ⟨x16.heap.size, 1, none⟩ = some ((.slice aH g0.length cpH)) ∧ (x16.alloc (.cells #[.int .i64 c0, (.slice aH g0.length cpH), .string ⟨b0.toArray⟩] 42)).cell? ⟨x16.heap.size, 2, none⟩ = some (.string ⟨b0.toArray⟩)) := Lib.hid ⟨by rw [World.cell?_alloc_new]; rfl, by rw [World.cell?_alloc_new]; rfl, by rw [World.cell?_alloc_new]; rfl⟩
    have HZHo := HZH.out
    obtain ⟨hzh_0, hzh_1, hzh_2⟩ := HZHo
    have HZWo := HZW.out
    obtain ⟨hzw_0, hzw_1, hzw_2⟩ := HZWo
    go_wp2_with (fail)
    go_at_call 25
    refine (Msg.eq_rsp_wide c0 (.slice aH g0.length cpH) g0 b0 (.slice aW g0.length cpW) _ _ _ HH.out HWW.out (by omega) (by omega) (by have := HK.out; omega)).mono ?_
    rintro e x18 ⟨rfl, b18⟩
    have hs18 := b18.size
    clear hzh_0 hzh_1 hzh_2
    clear hzw_0 hzw_1 hzw_2
    have HWW := Lib.hid (Flds.holds_below HWW.out (b18.mono (by omega)))
    have HZW := Lib.hid (And.intro ((b18.cell (p := ⟨x3.heap.size, 0, none⟩) (Rec.lt_of_cell (HZW.out.1))).trans (HZW.out.1)) (And.intro ((b18.cell (p := ⟨x3.heap.size, 1, none⟩) (Rec.lt_of_cell (HZW.out.2.1))).trans (HZW.out.2.1)) ((b18.cell (p := ⟨x3.heap.size, 2, none⟩) (Rec.lt_of_cell (HZW.out.2.2))).trans (HZW.out.2.2))))
    have HZG := Lib.hid (And.intro ((b18.cell (p := ⟨x7.heap.size, 0, none⟩) (Rec.lt_of_cell (HZG.out.1))).trans (HZG.out.1)) (And.intro ((b18.cell (p := ⟨x7.heap.size, 1, none⟩) (Rec.lt_of_cell (HZG.out.2.1))).trans (HZG.out.2.1)) ((b18.cell (p := ⟨x7.heap.size, 2, none⟩) (Rec.lt_of_cell (HZG.out.2.2))).trans (HZG.out.2.2))))
    have HG := Lib.hid (Flds.row_below HG.out b18)
    have HH := Lib.hid (Flds.holds_below HH.out (b18.mono (by omega)))
    have HZH := Lib.hid (And.intro ((b18.cell (p := ⟨x16.heap.size, 0, none⟩) (Rec.lt_of_cell (HZH.out.1))).trans (HZH.out.1)) (And.intro ((b18.cell (p := ⟨x16.heap.size, 1, none⟩) (Rec.lt_of_cell (HZH.out.2.1))).trans (HZH.out.2.1)) ((b18.cell (p := ⟨x16.heap.size, 2, none⟩) (Rec.lt_of_cell (HZH.out.2.2))).trans (HZH.out.2.2))))
    have HB := Lib.hid (Base.then_below HB.out b18)
    clear b18
    have HZGo := HZG.out
    obtain ⟨hzg_0, hzg_1, hzg_2⟩ := HZGo
    go_wp2_with (fail)
    go_at_call 27
    refine (Mark.held_rsp c0 b0 _ (.slice aG g0.length cpG) 1 g0.length _ (Flds.own_holds HG.out) (by omega) (by omega) (by have := HK.out; omega)).mono ?_
    rintro e x19 ⟨rfl, b19⟩
    have hs19 := b19.size
    clear hzg_0 hzg_1 hzg_2
    have HZG := Lib.hid (And.intro ((b19.cell (p := ⟨x7.heap.size, 0, none⟩) (Rec.lt_of_cell (HZG.out.1))).trans (HZG.out.1)) (And.intro ((b19.cell (p := ⟨x7.heap.size, 1, none⟩) (Rec.lt_of_cell (HZG.out.2.1))).trans (HZG.out.2.1)) ((b19.cell (p := ⟨x7.heap.size, 2, none⟩) (Rec.lt_of_cell (HZG.out.2.2))).trans (HZG.out.2.2))))
    have HG := Lib.hid (Flds.row_below HG.out b19)
    have HB := Lib.hid (Base.then_below HB.out b19)
    clear b19
    go_wp2
    go_ret
    exact ⟨rfl, HB.out⟩)

set_option maxRecDepth 1000000 in
theorem lifted (os : Os) (started : os.Started) (H : Type) (enc : TypeId × Value → H) :
    ReturnsInHanded {} Try.checked os 6 .any (Rows.fnExactStripAnswerSpec.pre6 enc Try.prog Try.f6 Rows.fnExactStripAnswerRow.domain false) (Rows.fnExactStripAnswerSpec.post enc Try.prog Try.f6 false true false false) := by
  refine returnsInHanded_of_change (C := Try.checked) own started (by kernel_rfl) Try.func6
    (ChangeSpec.witness6 (enc := enc) (C := Try.checked) false ⟨#[], #[.agg #[.int .i64 0, .slice none 0 0, .string ⟨#[]⟩]], []⟩ 8 (by kernel_rfl) (by kernel_rfl) (by kernel_rfl) (by kernel_rfl)) ?_
  intro W base args ds gs before hval0 hW hcnd _
  have hval : ∀ (j : Nat) t v, Try.f6.params[j]? = some t → args[j]? = some v → Value.okWide Try.prog W .any base t v := hval0
  have hW' := hW
  obtain ⟨p, q, hA0, hV, rfl, hfz, hnd⟩ := hW
  have hA : DataW.TrodAll enc Try.prog W 0 (fun _ => true) true Try.f6.params.toList args.toList ds p := hA0
  rw [Try.params6] at hA hval
  obtain ⟨v0, vs0, d0, ds0, p0, q0, hargs, rfl, rfl, h0, r0⟩ := trodAll_cons hA
  obtain ⟨rfl, rfl, rfl⟩ := trodAll_nil r0
  obtain rfl : args = #[v0] := by cases args; simp_all
  obtain ⟨rfl, rfl⟩ := trodVars_none hV
  have k0 := h0
  obtain ⟨c0, u0, l0, b0, rfl, y0, w0⟩ := Msg.open_rsp (hval 0 38 v0 rfl rfl) h0
  clear hA0 hval0
  simp only [List.append_nil] at hW'
  refine (walk c0 u0 l0 b0 w0 W y0).mono fun e W' ⟨he, hb⟩ => ?_
  subst he
  exact ⟨_, rfl, ⟨_, _, _, [], _, [], hW', (trodAll_cons_mk (shut_bool Try.underlying4 _) trodAll_mk0), (trodAll_cons_mk (Below.trod laidOut (by kernel_rfl) (of_decide_eq_true (by kernel_rfl)) k0 hb (fun x hx => hW'.lt x (by simp [hx]))) trodAll_mk0), rfl, hb.frame _, fun h => by cases h⟩⟩

theorem over : Rows.fnExactStripAnswerRow.holds Try.pinned (OpenSpec.ofChange Rows.fnExactStripAnswerSpec) :=
  OpenClaim.holds_of_wide 6 Try.f6 rfl rfl rfl rfl rfl rfl rfl ⟨rfl, rfl, rfl, rfl, rfl⟩ rfl rfl rfl rfl rfl (by kernel_rfl) Try.func6 (by kernel_rfl)
    (of_decide_eq_true (by kernel_rfl)) (by unfold Func.isWrapper; first | (rw [if_pos (by decide +kernel)]; kernel_rfl) | (rw [if_neg (by decide +kernel)]; exact ⟨rfl, rfl⟩))
    (fun os started H enc _ => lifted os started H enc)

/-- The given statement. -/
theorem proved : Rows.FnExactStripAnswerSaid :=
  over
#print axioms proved
end Go.Proofs.Ytnffoifkinpmpaa.fnExactStripAnswer
