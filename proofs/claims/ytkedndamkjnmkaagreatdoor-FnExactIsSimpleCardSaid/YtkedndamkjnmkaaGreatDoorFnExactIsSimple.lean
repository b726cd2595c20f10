/-
  PROVED: at any request the program's IsSimple returns what its model returns and writes into no argument: the exact law of IsSimple returns true and leaves its argument as it was. CONDITION: the library's errors read as their text lays them, the other listed variables as pinned (the card ties them to the text of the pruned project).
-/
import Derived.Test.YtkedndamkjnmkaaGreatDoorPkA
import Derived.Carry
import Derived.Test.YtkedndamkjnmkaaGreatDoorPkC
import Derived.Test.YtkedndamkjnmkaaGreatDoorPkY
import Derived.Test.YtkedndamkjnmkaaGreatDoorPkW
import Derived.Test.YtkedndamkjnmkaaGreatDoorPkN
import Derived.Test.YtkedndamkjnmkaaGreatDoorTie
import Derived.Test.YtkedndamkjnmkaaGreatDoorCards
import Derived.LaidMore
import Derived.Lay
import Derived.OpenVars
import Derived.Stop.LaidErr
namespace Go.Proofs.YtkedndamkjnmkaaGreatDoor.fnExactIsSimple
open Go.ChangeShapes Go.WideShapes Go.ChangeAt Go.RowKit
set_option linter.unusedVariables false
set_option maxRecDepth 1000000

theorem own : ownKnob Tryz.prog.godebug = none := by kernel_rfl

theorem laidOut : laidOutB Tryz.prog = true := by kernel_rfl

set_option maxHeartbeats 4000000 in
theorem walk (m0 : List UInt8) (h0 : List UInt8) (t0 : List UInt8) (u0 : Value) (l0 : List Msg.F) (w0 : Msg.Ok_req m0 h0 t0 l0) (w : World) (y0 : Flds.Holds w w.heap.size u0 l0) (her : Par.Errs w) (hmx : Sh.MxL w) :
    Calls Tryz.prog 5 #[.agg #[.string ⟨m0.toArray⟩, .string ⟨h0.toArray⟩, .string ⟨t0.toArray⟩, u0]] w fun e w' => e = .returned (.bool true) ∧ Below w.heap.size w w' := by
  have HW0 := Lib.hid w0
  have HY0 := Lib.hid y0
  clear w0 y0
  have HER := Lib.hid her
  have HMX := Lib.hid hmx
  clear her hmx
  have HB0' : Below w.heap.size w (w.alloc (.cells #[.string ⟨m0.toArray⟩, .string ⟨h0.toArray⟩, .string ⟨t0.toArray⟩, u0] 25)) := ((Below.refl w.heap.size w)).alloc (by simp) (.cells #[.string ⟨m0.toArray⟩, .string ⟨h0.toArray⟩, .string ⟨t0.toArray⟩, u0] 25)
  have hz0' : w.heap.size < (w.alloc (.cells #[.string ⟨m0.toArray⟩, .string ⟨h0.toArray⟩, .string ⟨t0.toArray⟩, u0] 25)).heap.size := by simp
  have HX0 : Hid ((w.alloc (.cells #[.string ⟨m0.toArray⟩, .string ⟨h0.toArray⟩, .string ⟨t0.toArray⟩, u0] 25)).cell? ⟨w.heap.size, 0, none⟩ = some (.string ⟨m0.toArray⟩) ∧ (w.alloc (.cells #[.string ⟨m0.toArray⟩, .string ⟨h0.toArray⟩, .string ⟨t0.toArray⟩, u0] 25)).cell? ⟨w.heap.size, 1, none⟩ = some (.string ⟨h0.toArray⟩) ∧ (w.alloc (.cells #[.string ⟨m0.toArray⟩, .string ⟨h0.toArray⟩, .string ⟨t0.toArray⟩, u0] 25)).cell? ⟨w.heap.size, 2, none⟩ = some (.string ⟨t0.toArray⟩) ∧ (w.alloc (.cells #[.string ⟨m0.toArray⟩, .string ⟨h0.toArray⟩, .string ⟨t0.toArray⟩, u0] 25)).cell? ⟨w.heap.size, 3, none⟩ = some (u0)) := Lib.hid ⟨by rw [World.cell?_alloc_new]; rfl, by rw [World.cell?_alloc_new]; rfl, by rw [World.cell?_alloc_new]; rfl, by rw [World.cell?_alloc_new]; rfl⟩
  have HB := Lib.hid HB0'
  have HY0 := Lib.hid (Flds.holds_below HY0.out (HB.out.mono (Nat.le_refl _)))
  have hszw := HB.out.size
  clear HB0'
  go_enter Tryz.func5, Tryz.ntmps5
  have HX0o := HX0.out
  obtain ⟨hx0_0, hx0_1, hx0_2, hx0_3⟩ := HX0o
  go_wp2_with (fail)
  go_at_call 9
  refine (Msg.size_req m0 h0 t0 u0 l0 _ w.heap.size _ HY0.out (by omega) HW0.out (by decide) (by decide)).mono ?_
  rintro e x1 ⟨z_0, rfl, hz0, b1⟩
  have hs1 := b1.size
  clear hx0_0 hx0_1 hx0_2 hx0_3
  have HX0 := Lib.hid (And.intro ((b1.cell (p := ⟨w.heap.size, 0, none⟩) (Rec.lt_of_cell (HX0.out.1))).trans (HX0.out.1)) (And.intro ((b1.cell (p := ⟨w.heap.size, 1, none⟩) (Rec.lt_of_cell (HX0.out.2.1))).trans (HX0.out.2.1)) (And.intro ((b1.cell (p := ⟨w.heap.size, 2, none⟩) (Rec.lt_of_cell (HX0.out.2.2.1))).trans (HX0.out.2.2.1)) ((b1.cell (p := ⟨w.heap.size, 3, none⟩) (Rec.lt_of_cell (HX0.out.2.2.2))).trans (HX0.out.2.2.2)))))
  have HY0 := Lib.hid (Flds.holds_below HY0.out (b1.mono (by omega)))
  have HB := Lib.hid (Base.then_below HB.out b1)
  clear b1
  rcases hz0 with hz0 | ⟨hz0, ht0⟩
  · go_wp2
    go_ret
    exact ⟨rfl, HB.out⟩
  have hzn0 : ¬ z_0 < 0 := by omega
  have HZ0 : Hid (z_0 + (((Flds.total l0 + m0.length + h0.length + t0.length) : Nat) : Int) = 1048576) := Lib.hid (by omega)
  clear ht0
  have HT0 : Hid (Flds.total l0 + m0.length + h0.length + t0.length ≤ 1048576) := Lib.hid (by have := HZ0.out; omega)
  have HL0 : Hid (l0.length ≤ 1048576) := Lib.hid (by have := HT0.out; unfold Flds.total at this; omega)
  obtain ⟨r, hr⟩ : ∃ z, z = Flds.simp1 m0 h0 t0 l0 := ⟨_, rfl⟩
  have HGr := Lib.hid hr
  clear hr
  have HX0o := HX0.out
  obtain ⟨hx0_0, hx0_1, hx0_2, hx0_3⟩ := HX0o
  go_wp2_with (fail)
  go_at_call 11
  refine (Msg.copy_req m0 h0 t0 u0 l0 w.heap.size _ HY0.out (by omega) HL0.out).mono ?_
  rintro e x2 ⟨vA, rfl, oA, b2⟩
  have hs2 := b2.size
  obtain ⟨aA, cpA, rfl, _⟩ := Rec.shape_at oA
  clear hx0_0 hx0_1 hx0_2 hx0_3
  have HX0 := Lib.hid (And.intro ((b2.cell (p := ⟨w.heap.size, 0, none⟩) (Rec.lt_of_cell (HX0.out.1))).trans (HX0.out.1)) (And.intro ((b2.cell (p := ⟨w.heap.size, 1, none⟩) (Rec.lt_of_cell (HX0.out.2.1))).trans (HX0.out.2.1)) (And.intro ((b2.cell (p := ⟨w.heap.size, 2, none⟩) (Rec.lt_of_cell (HX0.out.2.2.1))).trans (HX0.out.2.2.1)) ((b2.cell (p := ⟨w.heap.size, 3, none⟩) (Rec.lt_of_cell (HX0.out.2.2.2))).trans (HX0.out.2.2.2)))))
  have HY0 := Lib.hid (Flds.holds_below HY0.out (b2.mono (by omega)))
  have HB := Lib.hid (Base.then_below HB.out b2)
  clear b2
  have HA := Lib.hid (Flds.own_holds oA)
  clear oA
  go_wp2_with (fail)
  go_at_call 14
  refine (Flds.spec_sim m0 h0 t0 (.slice aA l0.length cpA) _ l0 _ HA.out (by omega) (by have := HT0.out; omega) (by have := HT0.out; omega) (by have := HT0.out; omega) (by have := HT0.out; omega)).mono ?_
  rintro e x3 ⟨he, b3⟩
  rw [← HGr.out] at he
  subst he
  have hs3 := b3.size
  have HX0 := Lib.hid (And.intro ((b3.cell (p := ⟨w.heap.size, 0, none⟩) (Rec.lt_of_cell (HX0.out.1))).trans (HX0.out.1)) (And.intro ((b3.cell (p := ⟨w.heap.size, 1, none⟩) (Rec.lt_of_cell (HX0.out.2.1))).trans (HX0.out.2.1)) (And.intro ((b3.cell (p := ⟨w.heap.size, 2, none⟩) (Rec.lt_of_cell (HX0.out.2.2.1))).trans (HX0.out.2.2.1)) ((b3.cell (p := ⟨w.heap.size, 3, none⟩) (Rec.lt_of_cell (HX0.out.2.2.2))).trans (HX0.out.2.2.2)))))
  have HY0 := Lib.hid (Flds.holds_below HY0.out (b3.mono (by omega)))
  have HB := Lib.hid (Base.then_below HB.out b3)
  clear b3
  have HX0o := HX0.out
  obtain ⟨hx0_0, hx0_1, hx0_2, hx0_3⟩ := HX0o
  go_wp2_with (fail)
  go_at_call 11
  refine (Msg.copy_req m0 h0 t0 u0 l0 w.heap.size _ HY0.out (by omega) HL0.out).mono ?_
  rintro e x4 ⟨vX, rfl, oX, b4⟩
  have hs4 := b4.size
  obtain ⟨aX, cpX, rfl, _⟩ := Rec.shape_at oX
  clear hx0_0 hx0_1 hx0_2 hx0_3
  have HX0 := Lib.hid (And.intro ((b4.cell (p := ⟨w.heap.size, 0, none⟩) (Rec.lt_of_cell (HX0.out.1))).trans (HX0.out.1)) (And.intro ((b4.cell (p := ⟨w.heap.size, 1, none⟩) (Rec.lt_of_cell (HX0.out.2.1))).trans (HX0.out.2.1)) (And.intro ((b4.cell (p := ⟨w.heap.size, 2, none⟩) (Rec.lt_of_cell (HX0.out.2.2.1))).trans (HX0.out.2.2.1)) ((b4.cell (p := ⟨w.heap.size, 3, none⟩) (Rec.lt_of_cell (HX0.out.2.2.2))).trans (HX0.out.2.2.2)))))
  have HY0 := Lib.hid (Flds.holds_below HY0.out (b4.mono (by omega)))
  have HB := Lib.hid (Base.then_below HB.out b4)
  clear b4
  have HX := Lib.hid (Flds.own_holds oX)
  clear oX
  have hsa5 : (x4.alloc (.cells #[.string ⟨m0.toArray⟩, .string ⟨h0.toArray⟩, .string ⟨t0.toArray⟩, (.slice aX l0.length cpX)] 31)).heap.size = x4.heap.size + 1 := by simp
  have HX0 := Lib.hid (And.intro ((((Below.refl x4.heap.size x4).alloc (Nat.le_refl _) (.cells #[.string ⟨m0.toArray⟩, .string ⟨h0.toArray⟩, .string ⟨t0.toArray⟩, (.slice aX l0.length cpX)] 31)).cell (p := ⟨w.heap.size, 0, none⟩) (Rec.lt_of_cell (HX0.out.1))).trans (HX0.out.1)) (And.intro ((((Below.refl x4.heap.size x4).alloc (Nat.le_refl _) (.cells #[.string ⟨m0.toArray⟩, .string ⟨h0.toArray⟩, .string ⟨t0.toArray⟩, (.slice aX l0.length cpX)] 31)).cell (p := ⟨w.heap.size, 1, none⟩) (Rec.lt_of_cell (HX0.out.2.1))).trans (HX0.out.2.1)) (And.intro ((((Below.refl x4.heap.size x4).alloc (Nat.le_refl _) (.cells #[.string ⟨m0.toArray⟩, .string ⟨h0.toArray⟩, .string ⟨t0.toArray⟩, (.slice aX l0.length cpX)] 31)).cell (p := ⟨w.heap.size, 2, none⟩) (Rec.lt_of_cell (HX0.out.2.2.1))).trans (HX0.out.2.2.1)) ((((Below.refl x4.heap.size x4).alloc (Nat.le_refl _) (.cells #[.string ⟨m0.toArray⟩, .string ⟨h0.toArray⟩, .string ⟨t0.toArray⟩, (.slice aX l0.length cpX)] 31)).cell (p := ⟨w.heap.size, 3, none⟩) (Rec.lt_of_cell (HX0.out.2.2.2))).trans (HX0.out.2.2.2)))))
  have HY0 := Lib.hid (Flds.holds_below HY0.out (((Below.refl x4.heap.size x4).alloc (Nat.le_refl _) (.cells #[.string ⟨m0.toArray⟩, .string ⟨h0.toArray⟩, .string ⟨t0.toArray⟩, (.slice aX l0.length cpX)] 31)).mono (by omega)))
  have HX := Lib.hid (Flds.holds_below HX.out (((Below.refl x4.heap.size x4).alloc (Nat.le_refl _) (.cells #[.string ⟨m0.toArray⟩, .string ⟨h0.toArray⟩, .string ⟨t0.toArray⟩, (.slice aX l0.length cpX)] 31)).mono (by omega)))
  have HB := Lib.hid (HB.out.alloc HB.out.size (.cells #[.string ⟨m0.toArray⟩, .string ⟨h0.toArray⟩, .string ⟨t0.toArray⟩, (.slice aX l0.length cpX)] 31))
  have HZX : Hid ((x4.alloc (.cells #[.string ⟨m0.toArray⟩, .string ⟨h0.toArray⟩, .string ⟨t0.toArray⟩, (.slice aX l0.length cpX)] 31)).cell? ⟨x4.heap.size, 0, none⟩ = some (.string ⟨m0.toArray⟩) ∧ (x4.alloc (.cells #[.string ⟨m0.toArray⟩, .string ⟨h0.toArray⟩, .string ⟨t0.toArray⟩, (.slice aX l0.length cpX)] 31)).cell? ⟨x4.heap.size, 1, none⟩ = some (.string ⟨h0.toArray⟩) ∧ (x4.alloc (.cells #[.string ⟨m0.toArray⟩, .string ⟨h0.toArray⟩, .string ⟨t0.toArray⟩, (.slice aX l0.length cpX)] 31)).cell? ⟨x4.heap.size, 2, none⟩ = some (.string ⟨t0.toArray⟩) ∧ (x4.alloc (.cells #[.string ⟨m0.toArray⟩, .string ⟨h0.toArray⟩, .string ⟨t0.toArray⟩, (.slice aX l0.length cpX)] 31)).cell? ⟨x4.heap.size, 3, none⟩ = some ((.slice aX l0.length cpX))) := Lib.hid ⟨by rw [World.cell?_alloc_new]; rfl, by rw [World.cell?_alloc_new]; rfl, by rw [World.cell?_alloc_new]; rfl, by rw [World.cell?_alloc_new]; rfl⟩
  have HZXo := HZX.out
  obtain ⟨hzx_0, hzx_1, hzx_2, hzx_3⟩ := HZXo
  go_wp2_with (fail)
  go_at_call 15
  refine (Flds.impl_sim m0 h0 t0 (.slice aX l0.length cpX) _ l0 _ HX.out (by omega) (by have := HT0.out; omega) (by have := HT0.out; omega) (by have := HT0.out; omega) (by have := HT0.out; omega) (Par.errs_below HER.out HB.out) (Sh.mxl_below HMX.out HB.out)).mono ?_
  rintro e x6 ⟨he, b6⟩
  rw [← HGr.out] at he
  subst he
  have hs6 := b6.size
  clear hzx_0 hzx_1 hzx_2 hzx_3
  have HX0 := Lib.hid (And.intro ((b6.cell (p := ⟨w.heap.size, 0, none⟩) (Rec.lt_of_cell (HX0.out.1))).trans (HX0.out.1)) (And.intro ((b6.cell (p := ⟨w.heap.size, 1, none⟩) (Rec.lt_of_cell (HX0.out.2.1))).trans (HX0.out.2.1)) (And.intro ((b6.cell (p := ⟨w.heap.size, 2, none⟩) (Rec.lt_of_cell (HX0.out.2.2.1))).trans (HX0.out.2.2.1)) ((b6.cell (p := ⟨w.heap.size, 3, none⟩) (Rec.lt_of_cell (HX0.out.2.2.2))).trans (HX0.out.2.2.2)))))
  have HY0 := Lib.hid (Flds.holds_below HY0.out (b6.mono (by omega)))
  have HX := Lib.hid (Flds.holds_below HX.out (b6.mono (by omega)))
  have HZX := Lib.hid (And.intro ((b6.cell (p := ⟨x4.heap.size, 0, none⟩) (Rec.lt_of_cell (HZX.out.1))).trans (HZX.out.1)) (And.intro ((b6.cell (p := ⟨x4.heap.size, 1, none⟩) (Rec.lt_of_cell (HZX.out.2.1))).trans (HZX.out.2.1)) (And.intro ((b6.cell (p := ⟨x4.heap.size, 2, none⟩) (Rec.lt_of_cell (HZX.out.2.2.1))).trans (HZX.out.2.2.1)) ((b6.cell (p := ⟨x4.heap.size, 3, none⟩) (Rec.lt_of_cell (HZX.out.2.2.2))).trans (HZX.out.2.2.2)))))
  have HB := Lib.hid (Base.then_below HB.out b6)
  clear b6
  have HX0 : Hid (x6.drew.cell? ⟨w.heap.size, 0, none⟩ = some (.string ⟨m0.toArray⟩) ∧ x6.drew.cell? ⟨w.heap.size, 1, none⟩ = some (.string ⟨h0.toArray⟩) ∧ x6.drew.cell? ⟨w.heap.size, 2, none⟩ = some (.string ⟨t0.toArray⟩) ∧ x6.drew.cell? ⟨w.heap.size, 3, none⟩ = some (u0)) := Lib.hid HX0.out
  have HZX : Hid (x6.drew.cell? ⟨x4.heap.size, 0, none⟩ = some (.string ⟨m0.toArray⟩) ∧ x6.drew.cell? ⟨x4.heap.size, 1, none⟩ = some (.string ⟨h0.toArray⟩) ∧ x6.drew.cell? ⟨x4.heap.size, 2, none⟩ = some (.string ⟨t0.toArray⟩) ∧ x6.drew.cell? ⟨x4.heap.size, 3, none⟩ = some ((.slice aX l0.length cpX))) := Lib.hid HZX.out
  have HY0 : Hid (Flds.Holds x6.drew w.heap.size u0 l0) := Lib.hid HY0.out
  have HX : Hid (Flds.Holds x6.drew _ (.slice aX l0.length cpX) l0) := Lib.hid HX.out
  have HB := Lib.hid (Rec.below_drew HB.out)
  have hdz7 : x6.drew.heap.size = x6.heap.size := rfl
  have qhx0_0 := HX0.out.1
  have qhx0_1 := HX0.out.2.1
  have qhx0_2 := HX0.out.2.2.1
  have qhx0_3 := HX0.out.2.2.2
  have qhzx_0 := HZX.out.1
  have qhzx_1 := HZX.out.2.1
  have qhzx_2 := HZX.out.2.2.1
  have qhzx_3 := HZX.out.2.2.2
  go_wp2
  go_region_with (first | (go_at_call 11; refine (Msg.copy_req m0 h0 t0 u0 l0 w.heap.size _ HY0.out (by have h9 := HB.out.size; omega) HL0.out).mono ?_; rintro e xq ⟨vC, rfl, oC, bq⟩; clear qhx0_0 qhx0_1 qhx0_2 qhx0_3 qhzx_0 qhzx_1 qhzx_2 qhzx_3; have hqz := bq.size; have HX0 := Lib.hid (And.intro ((bq.cell (p := ⟨w.heap.size, 0, none⟩) (Rec.lt_of_cell (HX0.out.1))).trans (HX0.out.1)) (And.intro ((bq.cell (p := ⟨w.heap.size, 1, none⟩) (Rec.lt_of_cell (HX0.out.2.1))).trans (HX0.out.2.1)) (And.intro ((bq.cell (p := ⟨w.heap.size, 2, none⟩) (Rec.lt_of_cell (HX0.out.2.2.1))).trans (HX0.out.2.2.1)) ((bq.cell (p := ⟨w.heap.size, 3, none⟩) (Rec.lt_of_cell (HX0.out.2.2.2))).trans (HX0.out.2.2.2))))); have HZX := Lib.hid (And.intro ((bq.cell (p := ⟨x4.heap.size, 0, none⟩) (Rec.lt_of_cell (HZX.out.1))).trans (HZX.out.1)) (And.intro ((bq.cell (p := ⟨x4.heap.size, 1, none⟩) (Rec.lt_of_cell (HZX.out.2.1))).trans (HZX.out.2.1)) (And.intro ((bq.cell (p := ⟨x4.heap.size, 2, none⟩) (Rec.lt_of_cell (HZX.out.2.2.1))).trans (HZX.out.2.2.1)) ((bq.cell (p := ⟨x4.heap.size, 3, none⟩) (Rec.lt_of_cell (HZX.out.2.2.2))).trans (HZX.out.2.2.2))))); have HY0 := Lib.hid (Flds.holds_below HY0.out (bq.mono (by have h9 := HB.out.size; omega))); have HX := Lib.hid (Flds.holds_below HX.out (bq.mono (by have h9 := HB.out.size; omega))); have HB := Lib.hid (Base.then_below HB.out bq); have HC := Lib.hid (Flds.own_holds oC); have qhx0_0 := HX0.out.1; have qhx0_1 := HX0.out.2.1; have qhx0_2 := HX0.out.2.2.1; have qhx0_3 := HX0.out.2.2.2; have qhzx_0 := HZX.out.1; have qhzx_1 := HZX.out.2.1; have qhzx_2 := HZX.out.2.2.1; have qhzx_3 := HZX.out.2.2.2; clear bq oC) | (go_at_call 13; refine (Msg.eq_req m0 h0 t0 (.slice aX l0.length cpX) l0 vC _ _ _ HX.out HC.out (by have h9 := HB.out.size; omega) (by omega) HL0.out).mono ?_; rintro e xq ⟨rfl, bq⟩; have HB := Lib.hid (Base.then_below HB.out bq); clear bq HX HC qhx0_0 qhx0_1 qhx0_2 qhx0_3 qhzx_0 qhzx_1 qhzx_2 qhzx_3))
  all_goals go_wp2
  all_goals go_ret
  all_goals exact ⟨rfl, HB.out⟩

set_option maxRecDepth 1000000 in
theorem lifted (os : Os) (started : os.Started) (H : Type) (enc : TypeId × Value → H) :
    ReturnsInHanded {} Tryz.checked os 5 .any (fun w args => (Rows.fnExactIsSimpleSpec.pre enc Tryz.prog Tryz.f5 [] false w args ∧ laidMetH Tryz.prog Rows.fnExactIsSimpleRow.laid w) ∧ sizedMet enc Tryz.prog Tryz.f5 (OpenSpec.ofChange Rows.fnExactIsSimpleSpec) false w args)
      (Rows.fnExactIsSimpleSpec.post enc Tryz.prog Tryz.f5 false true false false) := by
  refine Sh.and_shaped (C := Tryz.checked) (X := fun w _ => laidMetH Tryz.prog Rows.fnExactIsSimpleRow.laid w) (fun _ _ _ hh h => h.of_heap hh) own started (by kernel_rfl) Tryz.func5
    (ChangeSpec.witness_shaped (enc := enc) (C := Tryz.checked) (os := os) (X := fun w _ => laidMetH Tryz.prog Rows.fnExactIsSimpleRow.laid w) false (World.laidAll Tryz.prog os Rows.fnExactIsSimpleRow.laid) #[.agg #[.string ⟨#[]⟩, .string ⟨#[]⟩, .string ⟨#[]⟩, .slice none 0 0]] 8 (World.laidAll_os _ _ _) (World.shaped_of_ZipB (by kernel_rfl) (by kernel_rfl)) (by kernel_rfl) (by kernel_rfl) (by kernel_rfl)
      (by rw [MakeChecks.laidMetH_plain _ _ _ (by kernel_rfl)]; exact laidMet_laidAll _ (by kernel_rfl) (by kernel_rfl))) ?_
  intro W base args ds gs before hval0 hW hsh hL
  have hval : ∀ (j : Nat) t v, Tryz.f5.params[j]? = some t → args[j]? = some v → Value.okWide Tryz.prog W .any base t v := hval0
  have hW' := hW
  obtain ⟨p, q, hA0, hV, rfl, hfz, hnd⟩ := hW
  have hA : DataW.TrodAll enc Tryz.prog W 0 (fun _ => true) true Tryz.f5.params.toList args.toList ds p := hA0
  rw [Tryz.params5] at hA hval
  obtain ⟨v0, vs0, d0, ds0, p0, q0, hargs, rfl, rfl, h0, r0⟩ := trodAll_cons hA
  obtain ⟨rfl, rfl, rfl⟩ := trodAll_nil r0
  obtain rfl : args = #[v0] := by cases args; simp_all
  obtain ⟨rfl, rfl⟩ := trodVars_none hV
  have k0 := h0
  obtain ⟨m0, hh0, t0, u0, l0, rfl, y0, w0⟩ := Msg.open_req (hval 0 25 v0 rfl rfl) h0
  clear hA0 hval0
  simp only [List.append_nil] at hW'
  have hL' : laidMet Tryz.prog Rows.fnExactIsSimpleRow.laid W := by rw [← MakeChecks.laidMetH_plain _ _ _ (by kernel_rfl)]; exact hL
  refine (walk m0 hh0 t0 u0 l0 w0 W y0 (Laid.errs hL' (by simp [Rows.fnExactIsSimpleRow]) (by simp [Rows.fnExactIsSimpleRow])) (Sh.mxl_of hsh)).mono fun e W' ⟨he, hb⟩ => ?_
  subst he
  exact ⟨_, rfl, ⟨_, _, _, [], _, [], hW', (trodAll_cons_mk (shut_bool Tryz.underlying4 _) trodAll_mk0), (trodAll_cons_mk (Below.trod laidOut (by kernel_rfl) (of_decide_eq_true (by kernel_rfl)) k0 hb (fun x hx => hW'.lt x (by simp [hx]))) trodAll_mk0), rfl, hb.frame _, fun h => by cases h⟩⟩

theorem over : Rows.fnExactIsSimpleRow.holds Tryz.pinned (OpenSpec.ofChange Rows.fnExactIsSimpleSpec) :=
  OpenClaim.holds_of_wide 5 Tryz.f5 rfl rfl rfl rfl rfl rfl rfl ⟨rfl, rfl, rfl, rfl, rfl⟩ rfl rfl rfl rfl rfl (by kernel_rfl) Tryz.func5 (by kernel_rfl)
    (of_decide_eq_true (by kernel_rfl)) (by unfold Func.isWrapper; first | (rw [if_pos (by decide +kernel)]; kernel_rfl) | (rw [if_neg (by decide +kernel)]; exact ⟨rfl, rfl⟩))
    (fun os started H enc _ => lifted os started H enc)

/-- The given statement: the law's card, tied. -/
theorem proved : Rows.FnExactIsSimpleCardSaid :=
  Claim7.holds_tied_plain_at .later [] _ true _ _
    over (fun _ h => by cases h) (by kernel_rfl) (fun _ h => by cases h) fnExactIsSimple_row_tie rfl ⟨rfl, rfl⟩ (by kernel_rfl) rfl
    (fun f fn hf hfn => by
      obtain rfl : f = 5 := Option.some.inj ((show Tryz.prog.funcNamed "loop.example/g03012/laws.FnExactIsSimple" = some 5 by kernel_rfl).symm.trans hf) |>.symm
      obtain rfl : fn = Tryz.f5 := (Option.some.inj (Tryz.func5.symm.trans hfn)).symm
      exact ⟨by kernel_rfl, fun j t ht => by
        rw [Tryz.params5] at ht
        have hm : t ∈ [25] := by simpa using Array.mem_of_getElem? ht
        have hall : ([25].all fun u => !Tryz.prog.wantsStandIn u) = true := by kernel_rfl
        exact (show Tryz.prog.wantsStandIn t = false by simpa using List.all_eq_true.1 hall t hm)⟩)
    (by kernel_rfl)
#print axioms proved
end Go.Proofs.YtkedndamkjnmkaaGreatDoor.fnExactIsSimple
