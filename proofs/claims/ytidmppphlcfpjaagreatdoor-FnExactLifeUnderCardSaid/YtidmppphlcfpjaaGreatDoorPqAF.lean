/-
  CONTRACTS AND PLAIN FACTS, several texts in one; each says in its own words what it proves.
-/
import Derived.Test.YtidmppphlcfpjaaGreatDoorPqA
import Derived.Carry
import Derived.Test.YtidmppphlcfpjaaGreatDoorPqB
import Derived.Test.YtidmppphlcfpjaaGreatDoorPqC
import Derived.Test.YtidmppphlcfpjaaGreatDoorPqAD
import Derived.Test.YtidmppphlcfpjaaGreatDoorPqAE
import Derived.Test.YtidmppphlcfpjaaGreatDoorPqS
import Derived.Test.YtidmppphlcfpjaaGreatDoorPqY
import Derived.Test.YtidmppphlcfpjaaGreatDoorPqL
import Derived.Test.YtidmppphlcfpjaaGreatDoorTie
import Derived.Test.YtidmppphlcfpjaaGreatDoorCards
import Derived.LaidMore
import Derived.Lay
import Derived.OpenVars
import Derived.Stop.LaidErr
import Derived.RegionTactic
import Derived.Deep.RegionHeldLaw
set_option linter.unusedSimpArgs false
set_option linter.unusedVariables false

/-
  PROVED: the walk of the law of LifeUnder: it returns true and leaves its arguments as they were. Mine.
-/
namespace Go.Proofs.YtidmppphlcfpjaaGreatDoor.fnExactLifeUnder
open Go.ChangeShapes Go.WideShapes Go.ChangeAt Go.RowKit
set_option linter.unusedVariables false
set_option maxRecDepth 1000000


set_option maxHeartbeats 16000000 in
theorem walk (v0 : Value) (z0 : List Rul.T) (m1 h1 t1 : List UInt8) (u1 : Value) (l1 : List Msg.F) (c2 : Int) (u2 : Value) (l2 : List Msg.F) (b2 : List UInt8) (w0 : z0.length ≤ maxLen ∧ (∀ f ∈ z0, Rul.Ok f)) (w1 : Msg.Ok_req m1 h1 t1 l1) (w2 : Msg.Ok_rsp c2 l2 b2) (w : World) (y0 : Rul.Holds w w.heap.size v0 z0) (y1 : Flds.Holds w w.heap.size u1 l1) (y2 : Flds.Holds w w.heap.size u2 l2) (htn : Age.Tabs w) (hde : Dir.Errs w) (her : Par.Errs w) (hmx : Sh.MxL w) :
    Calls Tryz.prog 5 #[v0, .agg #[.string ⟨m1.toArray⟩, .string ⟨h1.toArray⟩, .string ⟨t1.toArray⟩, u1], .agg #[.int .i64 c2, u2, .string ⟨b2.toArray⟩]] w fun e w' => e = .returned (.bool true) ∧ Below w.heap.size w w' := by
  have HTN := Lib.hid htn
  have HDE := Lib.hid hde
  have HER := Lib.hid her
  have HMX := Lib.hid hmx
  clear her hmx htn hde
  have HW0 := Lib.hid w0
  have HY0 := Lib.hid y0
  have HW1 := Lib.hid w1
  have HY1 := Lib.hid y1
  have HW2 := Lib.hid w2
  have HY2 := Lib.hid y2
  clear w0 y0 w1 y1 w2 y2
  have HB : Hid (Below w.heap.size w ((w.alloc (.cells #[.string ⟨m1.toArray⟩, .string ⟨h1.toArray⟩, .string ⟨t1.toArray⟩, u1] 35)).alloc (.cells #[.int .i64 c2, u2, .string ⟨b2.toArray⟩] 37))) := Lib.hid (((Below.refl w.heap.size w).alloc (by simp) (.cells #[.string ⟨m1.toArray⟩, .string ⟨h1.toArray⟩, .string ⟨t1.toArray⟩, u1] 35)).alloc (by simp) (.cells #[.int .i64 c2, u2, .string ⟨b2.toArray⟩] 37))
  have hz0' : w.heap.size + 2 = ((w.alloc (.cells #[.string ⟨m1.toArray⟩, .string ⟨h1.toArray⟩, .string ⟨t1.toArray⟩, u1] 35)).alloc (.cells #[.int .i64 c2, u2, .string ⟨b2.toArray⟩] 37)).heap.size := by simp
  have k0_ := (Kept.Box.new (w := w) (T := 35) (a := #[.string ⟨m1.toArray⟩, .string ⟨h1.toArray⟩, .string ⟨t1.toArray⟩, u1])).alloc (.cells #[.int .i64 c2, u2, .string ⟨b2.toArray⟩] 37)
  have k1_ := Kept.Box.new (w := (w.alloc (.cells #[.string ⟨m1.toArray⟩, .string ⟨h1.toArray⟩, .string ⟨t1.toArray⟩, u1] 35))) (T := 37) (a := #[.int .i64 c2, u2, .string ⟨b2.toArray⟩])
  rw [show (w.alloc (.cells #[.string ⟨m1.toArray⟩, .string ⟨h1.toArray⟩, .string ⟨t1.toArray⟩, u1] 35)).heap.size = w.heap.size + 1 by simp] at k1_
  have HX1 : Hid (((w.alloc (.cells #[.string ⟨m1.toArray⟩, .string ⟨h1.toArray⟩, .string ⟨t1.toArray⟩, u1] 35)).alloc (.cells #[.int .i64 c2, u2, .string ⟨b2.toArray⟩] 37)).cell? ⟨w.heap.size, 0, none⟩ = some (.string ⟨m1.toArray⟩) ∧ ((w.alloc (.cells #[.string ⟨m1.toArray⟩, .string ⟨h1.toArray⟩, .string ⟨t1.toArray⟩, u1] 35)).alloc (.cells #[.int .i64 c2, u2, .string ⟨b2.toArray⟩] 37)).cell? ⟨w.heap.size, 1, none⟩ = some (.string ⟨h1.toArray⟩) ∧ ((w.alloc (.cells #[.string ⟨m1.toArray⟩, .string ⟨h1.toArray⟩, .string ⟨t1.toArray⟩, u1] 35)).alloc (.cells #[.int .i64 c2, u2, .string ⟨b2.toArray⟩] 37)).cell? ⟨w.heap.size, 2, none⟩ = some (.string ⟨t1.toArray⟩) ∧ ((w.alloc (.cells #[.string ⟨m1.toArray⟩, .string ⟨h1.toArray⟩, .string ⟨t1.toArray⟩, u1] 35)).alloc (.cells #[.int .i64 c2, u2, .string ⟨b2.toArray⟩] 37)).cell? ⟨w.heap.size, 3, none⟩ = some (u1)) := Lib.hid ⟨k0_.cell 0 _ rfl, k0_.cell 1 _ rfl, k0_.cell 2 _ rfl, k0_.cell 3 _ rfl⟩
  have HX2 : Hid (((w.alloc (.cells #[.string ⟨m1.toArray⟩, .string ⟨h1.toArray⟩, .string ⟨t1.toArray⟩, u1] 35)).alloc (.cells #[.int .i64 c2, u2, .string ⟨b2.toArray⟩] 37)).cell? ⟨w.heap.size + 1, 0, none⟩ = some (.int .i64 c2) ∧ ((w.alloc (.cells #[.string ⟨m1.toArray⟩, .string ⟨h1.toArray⟩, .string ⟨t1.toArray⟩, u1] 35)).alloc (.cells #[.int .i64 c2, u2, .string ⟨b2.toArray⟩] 37)).cell? ⟨w.heap.size + 1, 1, none⟩ = some (u2) ∧ ((w.alloc (.cells #[.string ⟨m1.toArray⟩, .string ⟨h1.toArray⟩, .string ⟨t1.toArray⟩, u1] 35)).alloc (.cells #[.int .i64 c2, u2, .string ⟨b2.toArray⟩] 37)).cell? ⟨w.heap.size + 1, 2, none⟩ = some (.string ⟨b2.toArray⟩)) := Lib.hid ⟨k1_.cell 0 _ rfl, k1_.cell 1 _ rfl, k1_.cell 2 _ rfl⟩
  clear k0_ k1_
  have HY0 := Lib.hid (Rul.holds_below HY0.out (HB.out.mono (Nat.le_refl _)))
  have HY1 := Lib.hid (Flds.holds_below HY1.out (HB.out.mono (Nat.le_refl _)))
  have HY2 := Lib.hid (Flds.holds_below HY2.out (HB.out.mono (Nat.le_refl _)))
  have hszw := HB.out.size
  go_enter Tryz.func5, Tryz.ntmps5
  go_wp2_with (fail)
  go_at_call 17
  refine (Rul.size_any _ _ z0 _ _ HY0.out HW0.out.1 HW0.out.2 (by decide) (by decide)).mono ?_
  rintro e x1 ⟨z_0, rfl, hz0, b1⟩
  have hs1 := b1.size
  have HX1 := Lib.hid (And.intro ((b1.cell (p := ⟨w.heap.size, 0, none⟩) (Rec.lt_of_cell (HX1.out.1))).trans (HX1.out.1)) (And.intro ((b1.cell (p := ⟨w.heap.size, 1, none⟩) (Rec.lt_of_cell (HX1.out.2.1))).trans (HX1.out.2.1)) (And.intro ((b1.cell (p := ⟨w.heap.size, 2, none⟩) (Rec.lt_of_cell (HX1.out.2.2.1))).trans (HX1.out.2.2.1)) ((b1.cell (p := ⟨w.heap.size, 3, none⟩) (Rec.lt_of_cell (HX1.out.2.2.2))).trans (HX1.out.2.2.2)))))
  have HX2 := Lib.hid (And.intro ((b1.cell (p := ⟨w.heap.size + 1, 0, none⟩) (Rec.lt_of_cell (HX2.out.1))).trans (HX2.out.1)) (And.intro ((b1.cell (p := ⟨w.heap.size + 1, 1, none⟩) (Rec.lt_of_cell (HX2.out.2.1))).trans (HX2.out.2.1)) ((b1.cell (p := ⟨w.heap.size + 1, 2, none⟩) (Rec.lt_of_cell (HX2.out.2.2))).trans (HX2.out.2.2))))
  have HY0 := Lib.hid (Rul.holds_below HY0.out (b1.mono (by omega)))
  have HY1 := Lib.hid (Flds.holds_below HY1.out (b1.mono (by omega)))
  have HY2 := Lib.hid (Flds.holds_below HY2.out (b1.mono (by omega)))
  have HB := Lib.hid (Base.then_below HB.out b1)
  clear b1
  rcases hz0 with hz0 | ⟨hz0, ht0⟩
  · go_wp2
    go_ret
    exact ⟨rfl, HB.out⟩
  have hzn0 : ¬ z_0 < 0 := by omega
  have HZ0 : Hid (z_0 + ((Rul.total z0 : Nat) : Int) = 1048576) := Lib.hid (by omega)
  clear ht0
  have HX1o := HX1.out
  obtain ⟨hx1_0, hx1_1, hx1_2, hx1_3⟩ := HX1o
  have HX2o := HX2.out
  obtain ⟨hx2_0, hx2_1, hx2_2⟩ := HX2o
  go_wp2_with (fail)
  go_at_call 18
  refine (Msg.size_req m1 h1 t1 u1 l1 z_0 w.heap.size _ HY1.out (by omega) HW1.out hz0 (by have := HZ0.out; omega)).mono ?_
  rintro e x2 ⟨z_1, rfl, hz1, b2⟩
  have hs2 := b2.size
  clear hx1_0 hx1_1 hx1_2 hx1_3
  clear hx2_0 hx2_1 hx2_2
  have HX1 := Lib.hid (And.intro ((b2.cell (p := ⟨w.heap.size, 0, none⟩) (Rec.lt_of_cell (HX1.out.1))).trans (HX1.out.1)) (And.intro ((b2.cell (p := ⟨w.heap.size, 1, none⟩) (Rec.lt_of_cell (HX1.out.2.1))).trans (HX1.out.2.1)) (And.intro ((b2.cell (p := ⟨w.heap.size, 2, none⟩) (Rec.lt_of_cell (HX1.out.2.2.1))).trans (HX1.out.2.2.1)) ((b2.cell (p := ⟨w.heap.size, 3, none⟩) (Rec.lt_of_cell (HX1.out.2.2.2))).trans (HX1.out.2.2.2)))))
  have HX2 := Lib.hid (And.intro ((b2.cell (p := ⟨w.heap.size + 1, 0, none⟩) (Rec.lt_of_cell (HX2.out.1))).trans (HX2.out.1)) (And.intro ((b2.cell (p := ⟨w.heap.size + 1, 1, none⟩) (Rec.lt_of_cell (HX2.out.2.1))).trans (HX2.out.2.1)) ((b2.cell (p := ⟨w.heap.size + 1, 2, none⟩) (Rec.lt_of_cell (HX2.out.2.2))).trans (HX2.out.2.2))))
  have HY0 := Lib.hid (Rul.holds_below HY0.out (b2.mono (by omega)))
  have HY1 := Lib.hid (Flds.holds_below HY1.out (b2.mono (by omega)))
  have HY2 := Lib.hid (Flds.holds_below HY2.out (b2.mono (by omega)))
  have HB := Lib.hid (Base.then_below HB.out b2)
  clear b2
  rcases hz1 with hz1 | ⟨hz1, ht1⟩
  · go_wp2
    go_ret
    exact ⟨rfl, HB.out⟩
  have hzn1 : ¬ z_1 < 0 := by omega
  have HZ1 : Hid (z_1 + ((Rul.total z0 + (Flds.total l1 + m1.length + h1.length + t1.length) : Nat) : Int) = 1048576) := Lib.hid (by have := HZ0.out; omega)
  clear ht1
  have HX1o := HX1.out
  obtain ⟨hx1_0, hx1_1, hx1_2, hx1_3⟩ := HX1o
  have HX2o := HX2.out
  obtain ⟨hx2_0, hx2_1, hx2_2⟩ := HX2o
  go_wp2_with (fail)
  go_at_call 19
  refine (Msg.size_rsp c2 u2 l2 b2 z_1 w.heap.size _ HY2.out (by omega) HW2.out hz1 (by have := HZ1.out; omega)).mono ?_
  rintro e x3 ⟨z_2, rfl, hz2, b3⟩
  have hs3 := b3.size
  clear hx1_0 hx1_1 hx1_2 hx1_3
  clear hx2_0 hx2_1 hx2_2
  have HX1 := Lib.hid (And.intro ((b3.cell (p := ⟨w.heap.size, 0, none⟩) (Rec.lt_of_cell (HX1.out.1))).trans (HX1.out.1)) (And.intro ((b3.cell (p := ⟨w.heap.size, 1, none⟩) (Rec.lt_of_cell (HX1.out.2.1))).trans (HX1.out.2.1)) (And.intro ((b3.cell (p := ⟨w.heap.size, 2, none⟩) (Rec.lt_of_cell (HX1.out.2.2.1))).trans (HX1.out.2.2.1)) ((b3.cell (p := ⟨w.heap.size, 3, none⟩) (Rec.lt_of_cell (HX1.out.2.2.2))).trans (HX1.out.2.2.2)))))
  have HX2 := Lib.hid (And.intro ((b3.cell (p := ⟨w.heap.size + 1, 0, none⟩) (Rec.lt_of_cell (HX2.out.1))).trans (HX2.out.1)) (And.intro ((b3.cell (p := ⟨w.heap.size + 1, 1, none⟩) (Rec.lt_of_cell (HX2.out.2.1))).trans (HX2.out.2.1)) ((b3.cell (p := ⟨w.heap.size + 1, 2, none⟩) (Rec.lt_of_cell (HX2.out.2.2))).trans (HX2.out.2.2))))
  have HY0 := Lib.hid (Rul.holds_below HY0.out (b3.mono (by omega)))
  have HY1 := Lib.hid (Flds.holds_below HY1.out (b3.mono (by omega)))
  have HY2 := Lib.hid (Flds.holds_below HY2.out (b3.mono (by omega)))
  have HB := Lib.hid (Base.then_below HB.out b3)
  clear b3
  rcases hz2 with hz2 | ⟨hz2, ht2⟩
  · go_wp2
    go_ret
    exact ⟨rfl, HB.out⟩
  have hzn2 : ¬ z_2 < 0 := by omega
  have HZ2 : Hid (z_2 + ((Rul.total z0 + (Flds.total l1 + m1.length + h1.length + t1.length) + (Flds.total l2 + b2.length) : Nat) : Int) = 1048576) := Lib.hid (by have := HZ1.out; omega)
  clear ht2
  have HL0 : Hid (z0.length ≤ 1048576) := Lib.hid (Nat.le_trans (Rul.len_le_total z0) (by have := HZ2.out; omega))
  have HT0 : Hid (Rul.total z0 ≤ 1048576) := Lib.hid (by have := HZ2.out; omega)
  have HT1 : Hid (Flds.total l1 + m1.length + h1.length + t1.length ≤ 1048576) := Lib.hid (by have := HZ2.out; omega)
  have HL1 : Hid (l1.length ≤ 1048576) := Lib.hid (by have := HT1.out; unfold Flds.total at this; omega)
  have HT2 : Hid (Flds.total l2 ≤ 1048576) := Lib.hid (by have := HZ2.out; omega)
  have HL2 : Hid (l2.length ≤ 1048576) := Lib.hid (by have := HT2.out; unfold Flds.total at this; omega)
  obtain ⟨r, hrr⟩ : ∃ z, z = Lfu.lfu z0 t1 c2 l2 := ⟨_, rfl⟩
  have HG := Lib.hid hrr
  clear hrr
  have HX1 : Hid (x3.drew.cell? ⟨w.heap.size, 0, none⟩ = some (.string ⟨m1.toArray⟩) ∧ x3.drew.cell? ⟨w.heap.size, 1, none⟩ = some (.string ⟨h1.toArray⟩) ∧ x3.drew.cell? ⟨w.heap.size, 2, none⟩ = some (.string ⟨t1.toArray⟩) ∧ x3.drew.cell? ⟨w.heap.size, 3, none⟩ = some (u1)) := Lib.hid HX1.out
  have HX2 : Hid (x3.drew.cell? ⟨w.heap.size + 1, 0, none⟩ = some (.int .i64 c2) ∧ x3.drew.cell? ⟨w.heap.size + 1, 1, none⟩ = some (u2) ∧ x3.drew.cell? ⟨w.heap.size + 1, 2, none⟩ = some (.string ⟨b2.toArray⟩)) := Lib.hid HX2.out
  have HY0 := Lib.hid (Rul.holds_below HY0.out (Rec.below_drew (Below.refl _ _)))
  have HY1 := Lib.hid (Flds.holds_below HY1.out (Rec.below_drew (Below.refl _ _)))
  have HY2 := Lib.hid (Flds.holds_below HY2.out (Rec.below_drew (Below.refl _ _)))
  have HB := Lib.hid (Rec.below_drew HB.out)
  have hdz4 : x3.drew.heap.size = x3.heap.size := rfl
  go_wp2
  go_region_held_law (fun u => u.cell? ⟨w.heap.size, 0, none⟩ = some (.string ⟨m1.toArray⟩) ∧ u.cell? ⟨w.heap.size, 1, none⟩ = some (.string ⟨h1.toArray⟩) ∧ u.cell? ⟨w.heap.size, 2, none⟩ = some (.string ⟨t1.toArray⟩) ∧ u.cell? ⟨w.heap.size, 3, none⟩ = some (u1) ∧ u.cell? ⟨w.heap.size + 1, 0, none⟩ = some (.int .i64 c2) ∧ u.cell? ⟨w.heap.size + 1, 1, none⟩ = some (u2) ∧ u.cell? ⟨w.heap.size + 1, 2, none⟩ = some (.string ⟨b2.toArray⟩))
    (exact ⟨HX1.out.1, HX1.out.2.1, HX1.out.2.2.1, HX1.out.2.2.2, HX2.out.1, HX2.out.2.1, HX2.out.2.2⟩)
    (first | (go_at_call 21; refine (Rul.copy _ _ _ _ HY0.out HL0.out).mono ?_; rintro e xq ⟨vp, rfl, op, bq⟩; have hqz := bq.size; have HX1 := Lib.hid (And.intro ((bq.cell (p := ⟨w.heap.size, 0, none⟩) (Rec.lt_of_cell (HX1.out.1))).trans (HX1.out.1)) (And.intro ((bq.cell (p := ⟨w.heap.size, 1, none⟩) (Rec.lt_of_cell (HX1.out.2.1))).trans (HX1.out.2.1)) (And.intro ((bq.cell (p := ⟨w.heap.size, 2, none⟩) (Rec.lt_of_cell (HX1.out.2.2.1))).trans (HX1.out.2.2.1)) ((bq.cell (p := ⟨w.heap.size, 3, none⟩) (Rec.lt_of_cell (HX1.out.2.2.2))).trans (HX1.out.2.2.2))))); have HX2 := Lib.hid (And.intro ((bq.cell (p := ⟨w.heap.size + 1, 0, none⟩) (Rec.lt_of_cell (HX2.out.1))).trans (HX2.out.1)) (And.intro ((bq.cell (p := ⟨w.heap.size + 1, 1, none⟩) (Rec.lt_of_cell (HX2.out.2.1))).trans (HX2.out.2.1)) ((bq.cell (p := ⟨w.heap.size + 1, 2, none⟩) (Rec.lt_of_cell (HX2.out.2.2))).trans (HX2.out.2.2)))); have HY0 := Lib.hid (Rul.holds_below HY0.out (bq.mono (by have h9 := HB.out.size; omega))); have HY1 := Lib.hid (Flds.holds_below HY1.out (bq.mono (by have h9 := HB.out.size; omega))); have HY2 := Lib.hid (Flds.holds_below HY2.out (bq.mono (by have h9 := HB.out.size; omega))); (try (have HAp := Lib.hid (Rul.holds_more (Rul.holds_below HAp.out bq) bq.size))); (try (have HAm := Lib.hid (Flds.holds_more (Flds.holds_below HAm.out bq) bq.size))); (try (have HAr := Lib.hid (Flds.holds_more (Flds.holds_below HAr.out bq) bq.size))); have HB := Lib.hid (Base.then_below HB.out bq); have HAp := Lib.hid (Rul.own_holds op); clear bq op) | (go_at_call 22; refine (Msg.copy_req m1 h1 t1 u1 l1 w.heap.size _ HY1.out (by have h9 := HB.out.size; omega) HL1.out).mono ?_; rintro e xq ⟨vm, rfl, om, bq⟩; have hqz := bq.size; have HX1 := Lib.hid (And.intro ((bq.cell (p := ⟨w.heap.size, 0, none⟩) (Rec.lt_of_cell (HX1.out.1))).trans (HX1.out.1)) (And.intro ((bq.cell (p := ⟨w.heap.size, 1, none⟩) (Rec.lt_of_cell (HX1.out.2.1))).trans (HX1.out.2.1)) (And.intro ((bq.cell (p := ⟨w.heap.size, 2, none⟩) (Rec.lt_of_cell (HX1.out.2.2.1))).trans (HX1.out.2.2.1)) ((bq.cell (p := ⟨w.heap.size, 3, none⟩) (Rec.lt_of_cell (HX1.out.2.2.2))).trans (HX1.out.2.2.2))))); have HX2 := Lib.hid (And.intro ((bq.cell (p := ⟨w.heap.size + 1, 0, none⟩) (Rec.lt_of_cell (HX2.out.1))).trans (HX2.out.1)) (And.intro ((bq.cell (p := ⟨w.heap.size + 1, 1, none⟩) (Rec.lt_of_cell (HX2.out.2.1))).trans (HX2.out.2.1)) ((bq.cell (p := ⟨w.heap.size + 1, 2, none⟩) (Rec.lt_of_cell (HX2.out.2.2))).trans (HX2.out.2.2)))); have HY0 := Lib.hid (Rul.holds_below HY0.out (bq.mono (by have h9 := HB.out.size; omega))); have HY1 := Lib.hid (Flds.holds_below HY1.out (bq.mono (by have h9 := HB.out.size; omega))); have HY2 := Lib.hid (Flds.holds_below HY2.out (bq.mono (by have h9 := HB.out.size; omega))); (try (have HAp := Lib.hid (Rul.holds_more (Rul.holds_below HAp.out bq) bq.size))); (try (have HAm := Lib.hid (Flds.holds_more (Flds.holds_below HAm.out bq) bq.size))); (try (have HAr := Lib.hid (Flds.holds_more (Flds.holds_below HAr.out bq) bq.size))); have HB := Lib.hid (Base.then_below HB.out bq); have HAm := Lib.hid (Flds.own_holds om); clear bq om) | (go_at_call 23; refine (Msg.copy_rsp c2 u2 l2 b2 w.heap.size _ HY2.out (by have h9 := HB.out.size; omega) HL2.out).mono ?_; rintro e xq ⟨vr, rfl, om, bq⟩; have hqz := bq.size; have HX1 := Lib.hid (And.intro ((bq.cell (p := ⟨w.heap.size, 0, none⟩) (Rec.lt_of_cell (HX1.out.1))).trans (HX1.out.1)) (And.intro ((bq.cell (p := ⟨w.heap.size, 1, none⟩) (Rec.lt_of_cell (HX1.out.2.1))).trans (HX1.out.2.1)) (And.intro ((bq.cell (p := ⟨w.heap.size, 2, none⟩) (Rec.lt_of_cell (HX1.out.2.2.1))).trans (HX1.out.2.2.1)) ((bq.cell (p := ⟨w.heap.size, 3, none⟩) (Rec.lt_of_cell (HX1.out.2.2.2))).trans (HX1.out.2.2.2))))); have HX2 := Lib.hid (And.intro ((bq.cell (p := ⟨w.heap.size + 1, 0, none⟩) (Rec.lt_of_cell (HX2.out.1))).trans (HX2.out.1)) (And.intro ((bq.cell (p := ⟨w.heap.size + 1, 1, none⟩) (Rec.lt_of_cell (HX2.out.2.1))).trans (HX2.out.2.1)) ((bq.cell (p := ⟨w.heap.size + 1, 2, none⟩) (Rec.lt_of_cell (HX2.out.2.2))).trans (HX2.out.2.2)))); have HY0 := Lib.hid (Rul.holds_below HY0.out (bq.mono (by have h9 := HB.out.size; omega))); have HY1 := Lib.hid (Flds.holds_below HY1.out (bq.mono (by have h9 := HB.out.size; omega))); have HY2 := Lib.hid (Flds.holds_below HY2.out (bq.mono (by have h9 := HB.out.size; omega))); (try (have HAp := Lib.hid (Rul.holds_more (Rul.holds_below HAp.out bq) bq.size))); (try (have HAm := Lib.hid (Flds.holds_more (Flds.holds_below HAm.out bq) bq.size))); (try (have HAr := Lib.hid (Flds.holds_more (Flds.holds_below HAr.out bq) bq.size))); have HB := Lib.hid (Base.then_below HB.out bq); have HAr := Lib.hid (Flds.own_holds om); clear bq om) | (go_at_call 20; refine (Lfu.spec_lfu vp _ z0 m1 h1 t1 vm c2 vr l2 b2 _ HAp.out HAr.out (Nat.le_refl _) HT0.out (by have := HT1.out; omega) HT2.out).mono ?_; rintro e xr ⟨he, bq⟩; rw [← HG.out] at he; subst he; have hqz := bq.size; have HX1 := Lib.hid (And.intro ((bq.cell (p := ⟨w.heap.size, 0, none⟩) (Rec.lt_of_cell (HX1.out.1))).trans (HX1.out.1)) (And.intro ((bq.cell (p := ⟨w.heap.size, 1, none⟩) (Rec.lt_of_cell (HX1.out.2.1))).trans (HX1.out.2.1)) (And.intro ((bq.cell (p := ⟨w.heap.size, 2, none⟩) (Rec.lt_of_cell (HX1.out.2.2.1))).trans (HX1.out.2.2.1)) ((bq.cell (p := ⟨w.heap.size, 3, none⟩) (Rec.lt_of_cell (HX1.out.2.2.2))).trans (HX1.out.2.2.2))))); have HX2 := Lib.hid (And.intro ((bq.cell (p := ⟨w.heap.size + 1, 0, none⟩) (Rec.lt_of_cell (HX2.out.1))).trans (HX2.out.1)) (And.intro ((bq.cell (p := ⟨w.heap.size + 1, 1, none⟩) (Rec.lt_of_cell (HX2.out.2.1))).trans (HX2.out.2.1)) ((bq.cell (p := ⟨w.heap.size + 1, 2, none⟩) (Rec.lt_of_cell (HX2.out.2.2))).trans (HX2.out.2.2)))); have HY0 := Lib.hid (Rul.holds_below HY0.out (bq.mono (by have h9 := HB.out.size; omega))); have HY1 := Lib.hid (Flds.holds_below HY1.out (bq.mono (by have h9 := HB.out.size; omega))); have HY2 := Lib.hid (Flds.holds_below HY2.out (bq.mono (by have h9 := HB.out.size; omega))); have HB := Lib.hid (Base.then_below HB.out bq); clear bq HAp HAm HAr))
  go_wp2_with (fail)
  go_at_call 21
  refine (Rul.copy _ _ _ _ HY0.out HL0.out).mono ?_
  rintro e x5 ⟨vX0, rfl, oX0, b5⟩
  have hs5 := b5.size
  have HX1 := Lib.hid (And.intro ((b5.cell (p := ⟨w.heap.size, 0, none⟩) (Rec.lt_of_cell (HX1.out.1))).trans (HX1.out.1)) (And.intro ((b5.cell (p := ⟨w.heap.size, 1, none⟩) (Rec.lt_of_cell (HX1.out.2.1))).trans (HX1.out.2.1)) (And.intro ((b5.cell (p := ⟨w.heap.size, 2, none⟩) (Rec.lt_of_cell (HX1.out.2.2.1))).trans (HX1.out.2.2.1)) ((b5.cell (p := ⟨w.heap.size, 3, none⟩) (Rec.lt_of_cell (HX1.out.2.2.2))).trans (HX1.out.2.2.2)))))
  have HX2 := Lib.hid (And.intro ((b5.cell (p := ⟨w.heap.size + 1, 0, none⟩) (Rec.lt_of_cell (HX2.out.1))).trans (HX2.out.1)) (And.intro ((b5.cell (p := ⟨w.heap.size + 1, 1, none⟩) (Rec.lt_of_cell (HX2.out.2.1))).trans (HX2.out.2.1)) ((b5.cell (p := ⟨w.heap.size + 1, 2, none⟩) (Rec.lt_of_cell (HX2.out.2.2))).trans (HX2.out.2.2))))
  have HY0 := Lib.hid (Rul.holds_below HY0.out (b5.mono (by omega)))
  have HY1 := Lib.hid (Flds.holds_below HY1.out (b5.mono (by omega)))
  have HY2 := Lib.hid (Flds.holds_below HY2.out (b5.mono (by omega)))
  have HB := Lib.hid (Base.then_below HB.out b5)
  clear b5
  have HX0 := Lib.hid (Rul.own_holds oX0)
  clear oX0
  have HX1o := HX1.out
  obtain ⟨hx1_0, hx1_1, hx1_2, hx1_3⟩ := HX1o
  have HX2o := HX2.out
  obtain ⟨hx2_0, hx2_1, hx2_2⟩ := HX2o
  go_wp2_with (fail)
  go_at_call 22
  refine (Msg.copy_req m1 h1 t1 u1 l1 w.heap.size _ HY1.out (by have h9 := HB.out.size; omega) HL1.out).mono ?_
  rintro e x6 ⟨vXm, rfl, oXm, b6⟩
  have hs6 := b6.size
  obtain ⟨aXm, cpXm, rfl, _⟩ := Rec.shape_at oXm
  clear hx1_0 hx1_1 hx1_2 hx1_3
  clear hx2_0 hx2_1 hx2_2
  have HX1 := Lib.hid (And.intro ((b6.cell (p := ⟨w.heap.size, 0, none⟩) (Rec.lt_of_cell (HX1.out.1))).trans (HX1.out.1)) (And.intro ((b6.cell (p := ⟨w.heap.size, 1, none⟩) (Rec.lt_of_cell (HX1.out.2.1))).trans (HX1.out.2.1)) (And.intro ((b6.cell (p := ⟨w.heap.size, 2, none⟩) (Rec.lt_of_cell (HX1.out.2.2.1))).trans (HX1.out.2.2.1)) ((b6.cell (p := ⟨w.heap.size, 3, none⟩) (Rec.lt_of_cell (HX1.out.2.2.2))).trans (HX1.out.2.2.2)))))
  have HX2 := Lib.hid (And.intro ((b6.cell (p := ⟨w.heap.size + 1, 0, none⟩) (Rec.lt_of_cell (HX2.out.1))).trans (HX2.out.1)) (And.intro ((b6.cell (p := ⟨w.heap.size + 1, 1, none⟩) (Rec.lt_of_cell (HX2.out.2.1))).trans (HX2.out.2.1)) ((b6.cell (p := ⟨w.heap.size + 1, 2, none⟩) (Rec.lt_of_cell (HX2.out.2.2))).trans (HX2.out.2.2))))
  have HY0 := Lib.hid (Rul.holds_below HY0.out (b6.mono (by omega)))
  have HY1 := Lib.hid (Flds.holds_below HY1.out (b6.mono (by omega)))
  have HY2 := Lib.hid (Flds.holds_below HY2.out (b6.mono (by omega)))
  have HX0 := Lib.hid (Rul.holds_below HX0.out (b6.mono (by omega)))
  have HB := Lib.hid (Base.then_below HB.out b6)
  clear b6
  have HXm := Lib.hid (Flds.own_holds oXm)
  clear oXm
  have hsa7 : (x6.alloc (.cells #[.string ⟨m1.toArray⟩, .string ⟨h1.toArray⟩, .string ⟨t1.toArray⟩, (.slice aXm l1.length cpXm)] 46)).heap.size = x6.heap.size + 1 := by simp
  have HX1 := Lib.hid (And.intro ((((Below.refl x6.heap.size x6).alloc (Nat.le_refl _) (.cells #[.string ⟨m1.toArray⟩, .string ⟨h1.toArray⟩, .string ⟨t1.toArray⟩, (.slice aXm l1.length cpXm)] 46)).cell (p := ⟨w.heap.size, 0, none⟩) (Rec.lt_of_cell (HX1.out.1))).trans (HX1.out.1)) (And.intro ((((Below.refl x6.heap.size x6).alloc (Nat.le_refl _) (.cells #[.string ⟨m1.toArray⟩, .string ⟨h1.toArray⟩, .string ⟨t1.toArray⟩, (.slice aXm l1.length cpXm)] 46)).cell (p := ⟨w.heap.size, 1, none⟩) (Rec.lt_of_cell (HX1.out.2.1))).trans (HX1.out.2.1)) (And.intro ((((Below.refl x6.heap.size x6).alloc (Nat.le_refl _) (.cells #[.string ⟨m1.toArray⟩, .string ⟨h1.toArray⟩, .string ⟨t1.toArray⟩, (.slice aXm l1.length cpXm)] 46)).cell (p := ⟨w.heap.size, 2, none⟩) (Rec.lt_of_cell (HX1.out.2.2.1))).trans (HX1.out.2.2.1)) ((((Below.refl x6.heap.size x6).alloc (Nat.le_refl _) (.cells #[.string ⟨m1.toArray⟩, .string ⟨h1.toArray⟩, .string ⟨t1.toArray⟩, (.slice aXm l1.length cpXm)] 46)).cell (p := ⟨w.heap.size, 3, none⟩) (Rec.lt_of_cell (HX1.out.2.2.2))).trans (HX1.out.2.2.2)))))
  have HX2 := Lib.hid (And.intro ((((Below.refl x6.heap.size x6).alloc (Nat.le_refl _) (.cells #[.string ⟨m1.toArray⟩, .string ⟨h1.toArray⟩, .string ⟨t1.toArray⟩, (.slice aXm l1.length cpXm)] 46)).cell (p := ⟨w.heap.size + 1, 0, none⟩) (Rec.lt_of_cell (HX2.out.1))).trans (HX2.out.1)) (And.intro ((((Below.refl x6.heap.size x6).alloc (Nat.le_refl _) (.cells #[.string ⟨m1.toArray⟩, .string ⟨h1.toArray⟩, .string ⟨t1.toArray⟩, (.slice aXm l1.length cpXm)] 46)).cell (p := ⟨w.heap.size + 1, 1, none⟩) (Rec.lt_of_cell (HX2.out.2.1))).trans (HX2.out.2.1)) ((((Below.refl x6.heap.size x6).alloc (Nat.le_refl _) (.cells #[.string ⟨m1.toArray⟩, .string ⟨h1.toArray⟩, .string ⟨t1.toArray⟩, (.slice aXm l1.length cpXm)] 46)).cell (p := ⟨w.heap.size + 1, 2, none⟩) (Rec.lt_of_cell (HX2.out.2.2))).trans (HX2.out.2.2))))
  have HY0 := Lib.hid (Rul.holds_below HY0.out (((Below.refl x6.heap.size x6).alloc (Nat.le_refl _) (.cells #[.string ⟨m1.toArray⟩, .string ⟨h1.toArray⟩, .string ⟨t1.toArray⟩, (.slice aXm l1.length cpXm)] 46)).mono (by omega)))
  have HY1 := Lib.hid (Flds.holds_below HY1.out (((Below.refl x6.heap.size x6).alloc (Nat.le_refl _) (.cells #[.string ⟨m1.toArray⟩, .string ⟨h1.toArray⟩, .string ⟨t1.toArray⟩, (.slice aXm l1.length cpXm)] 46)).mono (by omega)))
  have HY2 := Lib.hid (Flds.holds_below HY2.out (((Below.refl x6.heap.size x6).alloc (Nat.le_refl _) (.cells #[.string ⟨m1.toArray⟩, .string ⟨h1.toArray⟩, .string ⟨t1.toArray⟩, (.slice aXm l1.length cpXm)] 46)).mono (by omega)))
  have HX0 := Lib.hid (Rul.holds_below HX0.out (((Below.refl x6.heap.size x6).alloc (Nat.le_refl _) (.cells #[.string ⟨m1.toArray⟩, .string ⟨h1.toArray⟩, .string ⟨t1.toArray⟩, (.slice aXm l1.length cpXm)] 46)).mono (by omega)))
  have HXm := Lib.hid (Flds.holds_below HXm.out (((Below.refl x6.heap.size x6).alloc (Nat.le_refl _) (.cells #[.string ⟨m1.toArray⟩, .string ⟨h1.toArray⟩, .string ⟨t1.toArray⟩, (.slice aXm l1.length cpXm)] 46)).mono (by omega)))
  have HB := Lib.hid (HB.out.alloc HB.out.size (.cells #[.string ⟨m1.toArray⟩, .string ⟨h1.toArray⟩, .string ⟨t1.toArray⟩, (.slice aXm l1.length cpXm)] 46))
  have HZ1_ : Hid ((x6.alloc (.cells #[.string ⟨m1.toArray⟩, .string ⟨h1.toArray⟩, .string ⟨t1.toArray⟩, (.slice aXm l1.length cpXm)] 46)).cell? ⟨x6.heap.size, 0, none⟩ = some (.string ⟨m1.toArray⟩) ∧ (x6.alloc (.cells #[.string ⟨m1.toArray⟩, .string ⟨h1.toArray⟩, .string ⟨t1.toArray⟩, (.slice aXm l1.length cpXm)] 46)).cell? ⟨x6.heap.size, 1, none⟩ = some (.string ⟨h1.toArray⟩) ∧ (x6.alloc (.cells #[.string ⟨m1.toArray⟩, .string ⟨h1.toArray⟩, .string ⟨t1.toArray⟩, (.slice aXm l1.length cpXm)] 46)).cell? ⟨x6.heap.size, 2, none⟩ = some (.string ⟨t1.toArray⟩) ∧ (x6.alloc (.cells #[.string ⟨m1.toArray⟩, .string ⟨h1.toArray⟩, .string ⟨t1.toArray⟩, (.slice aXm l1.length cpXm)] 46)).cell? ⟨x6.heap.size, 3, none⟩ = some ((.slice aXm l1.length cpXm))) := Lib.hid ⟨by rw [World.cell?_alloc_new]; rfl, by rw [World.cell?_alloc_new]; rfl, by rw [World.cell?_alloc_new]; rfl, by rw [World.cell?_alloc_new]; rfl⟩
  have HX2o := HX2.out
  obtain ⟨hx2_0, hx2_1, hx2_2⟩ := HX2o
  go_wp2_with (fail)
  go_at_call 23
  refine (Msg.copy_rsp c2 u2 l2 b2 w.heap.size _ HY2.out (by have h9 := HB.out.size; omega) HL2.out).mono ?_
  rintro e x8 ⟨vXr, rfl, oXr, b8⟩
  have hs8 := b8.size
  obtain ⟨aXr, cpXr, rfl, _⟩ := Rec.shape_at oXr
  clear hx2_0 hx2_1 hx2_2
  have HX1 := Lib.hid (And.intro ((b8.cell (p := ⟨w.heap.size, 0, none⟩) (Rec.lt_of_cell (HX1.out.1))).trans (HX1.out.1)) (And.intro ((b8.cell (p := ⟨w.heap.size, 1, none⟩) (Rec.lt_of_cell (HX1.out.2.1))).trans (HX1.out.2.1)) (And.intro ((b8.cell (p := ⟨w.heap.size, 2, none⟩) (Rec.lt_of_cell (HX1.out.2.2.1))).trans (HX1.out.2.2.1)) ((b8.cell (p := ⟨w.heap.size, 3, none⟩) (Rec.lt_of_cell (HX1.out.2.2.2))).trans (HX1.out.2.2.2)))))
  have HX2 := Lib.hid (And.intro ((b8.cell (p := ⟨w.heap.size + 1, 0, none⟩) (Rec.lt_of_cell (HX2.out.1))).trans (HX2.out.1)) (And.intro ((b8.cell (p := ⟨w.heap.size + 1, 1, none⟩) (Rec.lt_of_cell (HX2.out.2.1))).trans (HX2.out.2.1)) ((b8.cell (p := ⟨w.heap.size + 1, 2, none⟩) (Rec.lt_of_cell (HX2.out.2.2))).trans (HX2.out.2.2))))
  have HY0 := Lib.hid (Rul.holds_below HY0.out (b8.mono (by omega)))
  have HY1 := Lib.hid (Flds.holds_below HY1.out (b8.mono (by omega)))
  have HY2 := Lib.hid (Flds.holds_below HY2.out (b8.mono (by omega)))
  have HX0 := Lib.hid (Rul.holds_below HX0.out (b8.mono (by omega)))
  have HXm := Lib.hid (Flds.holds_below HXm.out (b8.mono (by omega)))
  have HZ1_ := Lib.hid (And.intro ((b8.cell (p := ⟨x6.heap.size, 0, none⟩) (Rec.lt_of_cell (HZ1_.out.1))).trans (HZ1_.out.1)) (And.intro ((b8.cell (p := ⟨x6.heap.size, 1, none⟩) (Rec.lt_of_cell (HZ1_.out.2.1))).trans (HZ1_.out.2.1)) (And.intro ((b8.cell (p := ⟨x6.heap.size, 2, none⟩) (Rec.lt_of_cell (HZ1_.out.2.2.1))).trans (HZ1_.out.2.2.1)) ((b8.cell (p := ⟨x6.heap.size, 3, none⟩) (Rec.lt_of_cell (HZ1_.out.2.2.2))).trans (HZ1_.out.2.2.2)))))
  have HB := Lib.hid (Base.then_below HB.out b8)
  clear b8
  have HXr := Lib.hid (Flds.own_holds oXr)
  clear oXr
  have hsa9 : (x8.alloc (.cells #[.int .i64 c2, (.slice aXr l2.length cpXr), .string ⟨b2.toArray⟩] 49)).heap.size = x8.heap.size + 1 := by simp
  have HX1 := Lib.hid (And.intro ((((Below.refl x8.heap.size x8).alloc (Nat.le_refl _) (.cells #[.int .i64 c2, (.slice aXr l2.length cpXr), .string ⟨b2.toArray⟩] 49)).cell (p := ⟨w.heap.size, 0, none⟩) (Rec.lt_of_cell (HX1.out.1))).trans (HX1.out.1)) (And.intro ((((Below.refl x8.heap.size x8).alloc (Nat.le_refl _) (.cells #[.int .i64 c2, (.slice aXr l2.length cpXr), .string ⟨b2.toArray⟩] 49)).cell (p := ⟨w.heap.size, 1, none⟩) (Rec.lt_of_cell (HX1.out.2.1))).trans (HX1.out.2.1)) (And.intro ((((Below.refl x8.heap.size x8).alloc (Nat.le_refl _) (.cells #[.int .i64 c2, (.slice aXr l2.length cpXr), .string ⟨b2.toArray⟩] 49)).cell (p := ⟨w.heap.size, 2, none⟩) (Rec.lt_of_cell (HX1.out.2.2.1))).trans (HX1.out.2.2.1)) ((((Below.refl x8.heap.size x8).alloc (Nat.le_refl _) (.cells #[.int .i64 c2, (.slice aXr l2.length cpXr), .string ⟨b2.toArray⟩] 49)).cell (p := ⟨w.heap.size, 3, none⟩) (Rec.lt_of_cell (HX1.out.2.2.2))).trans (HX1.out.2.2.2)))))
  have HX2 := Lib.hid (And.intro ((((Below.refl x8.heap.size x8).alloc (Nat.le_refl _) (.cells #[.int .i64 c2, (.slice aXr l2.length cpXr), .string ⟨b2.toArray⟩] 49)).cell (p := ⟨w.heap.size + 1, 0, none⟩) (Rec.lt_of_cell (HX2.out.1))).trans (HX2.out.1)) (And.intro ((((Below.refl x8.heap.size x8).alloc (Nat.le_refl _) (.cells #[.int .i64 c2, (.slice aXr l2.length cpXr), .string ⟨b2.toArray⟩] 49)).cell (p := ⟨w.heap.size + 1, 1, none⟩) (Rec.lt_of_cell (HX2.out.2.1))).trans (HX2.out.2.1)) ((((Below.refl x8.heap.size x8).alloc (Nat.le_refl _) (.cells #[.int .i64 c2, (.slice aXr l2.length cpXr), .string ⟨b2.toArray⟩] 49)).cell (p := ⟨w.heap.size + 1, 2, none⟩) (Rec.lt_of_cell (HX2.out.2.2))).trans (HX2.out.2.2))))
  have HY0 := Lib.hid (Rul.holds_below HY0.out (((Below.refl x8.heap.size x8).alloc (Nat.le_refl _) (.cells #[.int .i64 c2, (.slice aXr l2.length cpXr), .string ⟨b2.toArray⟩] 49)).mono (by omega)))
  have HY1 := Lib.hid (Flds.holds_below HY1.out (((Below.refl x8.heap.size x8).alloc (Nat.le_refl _) (.cells #[.int .i64 c2, (.slice aXr l2.length cpXr), .string ⟨b2.toArray⟩] 49)).mono (by omega)))
  have HY2 := Lib.hid (Flds.holds_below HY2.out (((Below.refl x8.heap.size x8).alloc (Nat.le_refl _) (.cells #[.int .i64 c2, (.slice aXr l2.length cpXr), .string ⟨b2.toArray⟩] 49)).mono (by omega)))
  have HX0 := Lib.hid (Rul.holds_below HX0.out (((Below.refl x8.heap.size x8).alloc (Nat.le_refl _) (.cells #[.int .i64 c2, (.slice aXr l2.length cpXr), .string ⟨b2.toArray⟩] 49)).mono (by omega)))
  have HXm := Lib.hid (Flds.holds_below HXm.out (((Below.refl x8.heap.size x8).alloc (Nat.le_refl _) (.cells #[.int .i64 c2, (.slice aXr l2.length cpXr), .string ⟨b2.toArray⟩] 49)).mono (by omega)))
  have HZ1_ := Lib.hid (And.intro ((((Below.refl x8.heap.size x8).alloc (Nat.le_refl _) (.cells #[.int .i64 c2, (.slice aXr l2.length cpXr), .string ⟨b2.toArray⟩] 49)).cell (p := ⟨x6.heap.size, 0, none⟩) (Rec.lt_of_cell (HZ1_.out.1))).trans (HZ1_.out.1)) (And.intro ((((Below.refl x8.heap.size x8).alloc (Nat.le_refl _) (.cells #[.int .i64 c2, (.slice aXr l2.length cpXr), .string ⟨b2.toArray⟩] 49)).cell (p := ⟨x6.heap.size, 1, none⟩) (Rec.lt_of_cell (HZ1_.out.2.1))).trans (HZ1_.out.2.1)) (And.intro ((((Below.refl x8.heap.size x8).alloc (Nat.le_refl _) (.cells #[.int .i64 c2, (.slice aXr l2.length cpXr), .string ⟨b2.toArray⟩] 49)).cell (p := ⟨x6.heap.size, 2, none⟩) (Rec.lt_of_cell (HZ1_.out.2.2.1))).trans (HZ1_.out.2.2.1)) ((((Below.refl x8.heap.size x8).alloc (Nat.le_refl _) (.cells #[.int .i64 c2, (.slice aXr l2.length cpXr), .string ⟨b2.toArray⟩] 49)).cell (p := ⟨x6.heap.size, 3, none⟩) (Rec.lt_of_cell (HZ1_.out.2.2.2))).trans (HZ1_.out.2.2.2)))))
  have HXr := Lib.hid (Flds.holds_below HXr.out (((Below.refl x8.heap.size x8).alloc (Nat.le_refl _) (.cells #[.int .i64 c2, (.slice aXr l2.length cpXr), .string ⟨b2.toArray⟩] 49)).mono (by omega)))
  have HB := Lib.hid (HB.out.alloc HB.out.size (.cells #[.int .i64 c2, (.slice aXr l2.length cpXr), .string ⟨b2.toArray⟩] 49))
  have HZ2_ : Hid ((x8.alloc (.cells #[.int .i64 c2, (.slice aXr l2.length cpXr), .string ⟨b2.toArray⟩] 49)).cell? ⟨x8.heap.size, 0, none⟩ = some (.int .i64 c2) ∧ (x8.alloc (.cells #[.int .i64 c2, (.slice aXr l2.length cpXr), .string ⟨b2.toArray⟩] 49)).cell? ⟨x8.heap.size, 1, none⟩ = some ((.slice aXr l2.length cpXr)) ∧ (x8.alloc (.cells #[.int .i64 c2, (.slice aXr l2.length cpXr), .string ⟨b2.toArray⟩] 49)).cell? ⟨x8.heap.size, 2, none⟩ = some (.string ⟨b2.toArray⟩)) := Lib.hid ⟨by rw [World.cell?_alloc_new]; rfl, by rw [World.cell?_alloc_new]; rfl, by rw [World.cell?_alloc_new]; rfl⟩
  have HZ1_o := HZ1_.out
  obtain ⟨hz1__0, hz1__1, hz1__2, hz1__3⟩ := HZ1_o
  have HZ2_o := HZ2_.out
  obtain ⟨hz2__0, hz2__1, hz2__2⟩ := HZ2_o
  have HXp2 := Lib.hid (Rul.holds_more (B' := (x8.alloc (.cells #[.int .i64 c2, (.slice aXr l2.length cpXr), .string ⟨b2.toArray⟩] 49)).heap.size) HX0.out (by omega))
  have HXm2 := Lib.hid (Flds.holds_more (B' := (x8.alloc (.cells #[.int .i64 c2, (.slice aXr l2.length cpXr), .string ⟨b2.toArray⟩] 49)).heap.size) HXm.out (by omega))
  have HXr2 := Lib.hid (Flds.holds_more (B' := (x8.alloc (.cells #[.int .i64 c2, (.slice aXr l2.length cpXr), .string ⟨b2.toArray⟩] 49)).heap.size) HXr.out (by omega))
  go_wp2_with (fail)
  go_at_call 24
  refine (Lfu.impl_lfu vX0 _ z0 m1 h1 t1 (.slice aXm l1.length cpXm) c2 (.slice aXr l2.length cpXr) l2 b2 _ HXp2.out HXr2.out (Nat.le_refl _) HT0.out (by have := HT1.out; omega) HT2.out (Age.tabs_below HTN.out HB.out) (Dir.errs_below HDE.out HB.out) (Par.errs_below HER.out HB.out) (Sh.mxl_below HMX.out HB.out)).mono ?_
  rintro e x10 ⟨he, b10⟩
  rw [← HG.out] at he
  subst he
  have hs10 := b10.size
  clear hz1__0 hz1__1 hz1__2 hz1__3
  clear hz2__0 hz2__1 hz2__2
  have HX1 := Lib.hid (And.intro ((b10.cell (p := ⟨w.heap.size, 0, none⟩) (Rec.lt_of_cell (HX1.out.1))).trans (HX1.out.1)) (And.intro ((b10.cell (p := ⟨w.heap.size, 1, none⟩) (Rec.lt_of_cell (HX1.out.2.1))).trans (HX1.out.2.1)) (And.intro ((b10.cell (p := ⟨w.heap.size, 2, none⟩) (Rec.lt_of_cell (HX1.out.2.2.1))).trans (HX1.out.2.2.1)) ((b10.cell (p := ⟨w.heap.size, 3, none⟩) (Rec.lt_of_cell (HX1.out.2.2.2))).trans (HX1.out.2.2.2)))))
  have HX2 := Lib.hid (And.intro ((b10.cell (p := ⟨w.heap.size + 1, 0, none⟩) (Rec.lt_of_cell (HX2.out.1))).trans (HX2.out.1)) (And.intro ((b10.cell (p := ⟨w.heap.size + 1, 1, none⟩) (Rec.lt_of_cell (HX2.out.2.1))).trans (HX2.out.2.1)) ((b10.cell (p := ⟨w.heap.size + 1, 2, none⟩) (Rec.lt_of_cell (HX2.out.2.2))).trans (HX2.out.2.2))))
  have HY0 := Lib.hid (Rul.holds_below HY0.out (b10.mono (by omega)))
  have HY1 := Lib.hid (Flds.holds_below HY1.out (b10.mono (by omega)))
  have HY2 := Lib.hid (Flds.holds_below HY2.out (b10.mono (by omega)))
  have HX0 := Lib.hid (Rul.holds_below HX0.out (b10.mono (by omega)))
  have HXm := Lib.hid (Flds.holds_below HXm.out (b10.mono (by omega)))
  have HZ1_ := Lib.hid (And.intro ((b10.cell (p := ⟨x6.heap.size, 0, none⟩) (Rec.lt_of_cell (HZ1_.out.1))).trans (HZ1_.out.1)) (And.intro ((b10.cell (p := ⟨x6.heap.size, 1, none⟩) (Rec.lt_of_cell (HZ1_.out.2.1))).trans (HZ1_.out.2.1)) (And.intro ((b10.cell (p := ⟨x6.heap.size, 2, none⟩) (Rec.lt_of_cell (HZ1_.out.2.2.1))).trans (HZ1_.out.2.2.1)) ((b10.cell (p := ⟨x6.heap.size, 3, none⟩) (Rec.lt_of_cell (HZ1_.out.2.2.2))).trans (HZ1_.out.2.2.2)))))
  have HXr := Lib.hid (Flds.holds_below HXr.out (b10.mono (by omega)))
  have HZ2_ := Lib.hid (And.intro ((b10.cell (p := ⟨x8.heap.size, 0, none⟩) (Rec.lt_of_cell (HZ2_.out.1))).trans (HZ2_.out.1)) (And.intro ((b10.cell (p := ⟨x8.heap.size, 1, none⟩) (Rec.lt_of_cell (HZ2_.out.2.1))).trans (HZ2_.out.2.1)) ((b10.cell (p := ⟨x8.heap.size, 2, none⟩) (Rec.lt_of_cell (HZ2_.out.2.2))).trans (HZ2_.out.2.2))))
  have HB := Lib.hid (Base.then_below HB.out b10)
  clear b10
  clear HXp2 HXm2 HXr2
  go_wp2_with (fail)
  go_at_call 21
  refine (Rul.copy _ _ _ _ HY0.out HL0.out).mono ?_
  rintro e x11 ⟨vC0, rfl, oC0, b11⟩
  have hs11 := b11.size
  have HX1 := Lib.hid (And.intro ((b11.cell (p := ⟨w.heap.size, 0, none⟩) (Rec.lt_of_cell (HX1.out.1))).trans (HX1.out.1)) (And.intro ((b11.cell (p := ⟨w.heap.size, 1, none⟩) (Rec.lt_of_cell (HX1.out.2.1))).trans (HX1.out.2.1)) (And.intro ((b11.cell (p := ⟨w.heap.size, 2, none⟩) (Rec.lt_of_cell (HX1.out.2.2.1))).trans (HX1.out.2.2.1)) ((b11.cell (p := ⟨w.heap.size, 3, none⟩) (Rec.lt_of_cell (HX1.out.2.2.2))).trans (HX1.out.2.2.2)))))
  have HX2 := Lib.hid (And.intro ((b11.cell (p := ⟨w.heap.size + 1, 0, none⟩) (Rec.lt_of_cell (HX2.out.1))).trans (HX2.out.1)) (And.intro ((b11.cell (p := ⟨w.heap.size + 1, 1, none⟩) (Rec.lt_of_cell (HX2.out.2.1))).trans (HX2.out.2.1)) ((b11.cell (p := ⟨w.heap.size + 1, 2, none⟩) (Rec.lt_of_cell (HX2.out.2.2))).trans (HX2.out.2.2))))
  have HY0 := Lib.hid (Rul.holds_below HY0.out (b11.mono (by omega)))
  have HY1 := Lib.hid (Flds.holds_below HY1.out (b11.mono (by omega)))
  have HY2 := Lib.hid (Flds.holds_below HY2.out (b11.mono (by omega)))
  have HX0 := Lib.hid (Rul.holds_below HX0.out (b11.mono (by omega)))
  have HXm := Lib.hid (Flds.holds_below HXm.out (b11.mono (by omega)))
  have HZ1_ := Lib.hid (And.intro ((b11.cell (p := ⟨x6.heap.size, 0, none⟩) (Rec.lt_of_cell (HZ1_.out.1))).trans (HZ1_.out.1)) (And.intro ((b11.cell (p := ⟨x6.heap.size, 1, none⟩) (Rec.lt_of_cell (HZ1_.out.2.1))).trans (HZ1_.out.2.1)) (And.intro ((b11.cell (p := ⟨x6.heap.size, 2, none⟩) (Rec.lt_of_cell (HZ1_.out.2.2.1))).trans (HZ1_.out.2.2.1)) ((b11.cell (p := ⟨x6.heap.size, 3, none⟩) (Rec.lt_of_cell (HZ1_.out.2.2.2))).trans (HZ1_.out.2.2.2)))))
  have HXr := Lib.hid (Flds.holds_below HXr.out (b11.mono (by omega)))
  have HZ2_ := Lib.hid (And.intro ((b11.cell (p := ⟨x8.heap.size, 0, none⟩) (Rec.lt_of_cell (HZ2_.out.1))).trans (HZ2_.out.1)) (And.intro ((b11.cell (p := ⟨x8.heap.size, 1, none⟩) (Rec.lt_of_cell (HZ2_.out.2.1))).trans (HZ2_.out.2.1)) ((b11.cell (p := ⟨x8.heap.size, 2, none⟩) (Rec.lt_of_cell (HZ2_.out.2.2))).trans (HZ2_.out.2.2))))
  have HB := Lib.hid (Base.then_below HB.out b11)
  clear b11
  have HC0 := Lib.hid (Rul.own_holds oC0)
  clear oC0
  go_wp2_with (fail)
  go_at_call 25
  refine (Rul.eq_same vX0 vC0 _ _ z0 _ HX0.out HC0.out HL0.out).mono ?_
  rintro e x12 ⟨rfl, b12⟩
  have hs12 := b12.size
  have HX1 := Lib.hid (And.intro ((b12.cell (p := ⟨w.heap.size, 0, none⟩) (Rec.lt_of_cell (HX1.out.1))).trans (HX1.out.1)) (And.intro ((b12.cell (p := ⟨w.heap.size, 1, none⟩) (Rec.lt_of_cell (HX1.out.2.1))).trans (HX1.out.2.1)) (And.intro ((b12.cell (p := ⟨w.heap.size, 2, none⟩) (Rec.lt_of_cell (HX1.out.2.2.1))).trans (HX1.out.2.2.1)) ((b12.cell (p := ⟨w.heap.size, 3, none⟩) (Rec.lt_of_cell (HX1.out.2.2.2))).trans (HX1.out.2.2.2)))))
  have HX2 := Lib.hid (And.intro ((b12.cell (p := ⟨w.heap.size + 1, 0, none⟩) (Rec.lt_of_cell (HX2.out.1))).trans (HX2.out.1)) (And.intro ((b12.cell (p := ⟨w.heap.size + 1, 1, none⟩) (Rec.lt_of_cell (HX2.out.2.1))).trans (HX2.out.2.1)) ((b12.cell (p := ⟨w.heap.size + 1, 2, none⟩) (Rec.lt_of_cell (HX2.out.2.2))).trans (HX2.out.2.2))))
  have HY0 := Lib.hid (Rul.holds_below HY0.out (b12.mono (by omega)))
  have HY1 := Lib.hid (Flds.holds_below HY1.out (b12.mono (by omega)))
  have HY2 := Lib.hid (Flds.holds_below HY2.out (b12.mono (by omega)))
  have HXm := Lib.hid (Flds.holds_below HXm.out (b12.mono (by omega)))
  have HZ1_ := Lib.hid (And.intro ((b12.cell (p := ⟨x6.heap.size, 0, none⟩) (Rec.lt_of_cell (HZ1_.out.1))).trans (HZ1_.out.1)) (And.intro ((b12.cell (p := ⟨x6.heap.size, 1, none⟩) (Rec.lt_of_cell (HZ1_.out.2.1))).trans (HZ1_.out.2.1)) (And.intro ((b12.cell (p := ⟨x6.heap.size, 2, none⟩) (Rec.lt_of_cell (HZ1_.out.2.2.1))).trans (HZ1_.out.2.2.1)) ((b12.cell (p := ⟨x6.heap.size, 3, none⟩) (Rec.lt_of_cell (HZ1_.out.2.2.2))).trans (HZ1_.out.2.2.2)))))
  have HXr := Lib.hid (Flds.holds_below HXr.out (b12.mono (by omega)))
  have HZ2_ := Lib.hid (And.intro ((b12.cell (p := ⟨x8.heap.size, 0, none⟩) (Rec.lt_of_cell (HZ2_.out.1))).trans (HZ2_.out.1)) (And.intro ((b12.cell (p := ⟨x8.heap.size, 1, none⟩) (Rec.lt_of_cell (HZ2_.out.2.1))).trans (HZ2_.out.2.1)) ((b12.cell (p := ⟨x8.heap.size, 2, none⟩) (Rec.lt_of_cell (HZ2_.out.2.2))).trans (HZ2_.out.2.2))))
  have HB := Lib.hid (Base.then_below HB.out b12)
  clear b12
  have HX1 : Hid (x12.drew.cell? ⟨w.heap.size, 0, none⟩ = some (.string ⟨m1.toArray⟩) ∧ x12.drew.cell? ⟨w.heap.size, 1, none⟩ = some (.string ⟨h1.toArray⟩) ∧ x12.drew.cell? ⟨w.heap.size, 2, none⟩ = some (.string ⟨t1.toArray⟩) ∧ x12.drew.cell? ⟨w.heap.size, 3, none⟩ = some (u1)) := Lib.hid HX1.out
  have HX2 : Hid (x12.drew.cell? ⟨w.heap.size + 1, 0, none⟩ = some (.int .i64 c2) ∧ x12.drew.cell? ⟨w.heap.size + 1, 1, none⟩ = some (u2) ∧ x12.drew.cell? ⟨w.heap.size + 1, 2, none⟩ = some (.string ⟨b2.toArray⟩)) := Lib.hid HX2.out
  have HY0 := Lib.hid (Rul.holds_below HY0.out (Rec.below_drew (Below.refl _ _)))
  have HY1 := Lib.hid (Flds.holds_below HY1.out (Rec.below_drew (Below.refl _ _)))
  have HY2 := Lib.hid (Flds.holds_below HY2.out (Rec.below_drew (Below.refl _ _)))
  have HXm := Lib.hid (Flds.holds_below HXm.out (Rec.below_drew (Below.refl _ _)))
  have HZ1_ : Hid (x12.drew.cell? ⟨x6.heap.size, 0, none⟩ = some (.string ⟨m1.toArray⟩) ∧ x12.drew.cell? ⟨x6.heap.size, 1, none⟩ = some (.string ⟨h1.toArray⟩) ∧ x12.drew.cell? ⟨x6.heap.size, 2, none⟩ = some (.string ⟨t1.toArray⟩) ∧ x12.drew.cell? ⟨x6.heap.size, 3, none⟩ = some ((.slice aXm l1.length cpXm))) := Lib.hid HZ1_.out
  have HXr := Lib.hid (Flds.holds_below HXr.out (Rec.below_drew (Below.refl _ _)))
  have HZ2_ : Hid (x12.drew.cell? ⟨x8.heap.size, 0, none⟩ = some (.int .i64 c2) ∧ x12.drew.cell? ⟨x8.heap.size, 1, none⟩ = some ((.slice aXr l2.length cpXr)) ∧ x12.drew.cell? ⟨x8.heap.size, 2, none⟩ = some (.string ⟨b2.toArray⟩)) := Lib.hid HZ2_.out
  have HB := Lib.hid (Rec.below_drew HB.out)
  have hdz13 : x12.drew.heap.size = x12.heap.size := rfl
  go_wp2
  go_region_held_law (fun u => u.cell? ⟨w.heap.size, 0, none⟩ = some (.string ⟨m1.toArray⟩) ∧ u.cell? ⟨w.heap.size, 1, none⟩ = some (.string ⟨h1.toArray⟩) ∧ u.cell? ⟨w.heap.size, 2, none⟩ = some (.string ⟨t1.toArray⟩) ∧ u.cell? ⟨w.heap.size, 3, none⟩ = some (u1) ∧ u.cell? ⟨x6.heap.size, 0, none⟩ = some (.string ⟨m1.toArray⟩) ∧ u.cell? ⟨x6.heap.size, 1, none⟩ = some (.string ⟨h1.toArray⟩) ∧ u.cell? ⟨x6.heap.size, 2, none⟩ = some (.string ⟨t1.toArray⟩) ∧ u.cell? ⟨x6.heap.size, 3, none⟩ = some ((.slice aXm l1.length cpXm)))
    (exact ⟨HX1.out.1, HX1.out.2.1, HX1.out.2.2.1, HX1.out.2.2.2, HZ1_.out.1, HZ1_.out.2.1, HZ1_.out.2.2.1, HZ1_.out.2.2.2⟩)
    (first | (go_at_call 22; refine (Msg.copy_req m1 h1 t1 u1 l1 w.heap.size _ HY1.out (by have h9 := HB.out.size; omega) HL1.out).mono ?_; rintro e xq ⟨vC, rfl, oC, bq⟩; have hqz := bq.size; have HX1 := Lib.hid (And.intro ((bq.cell (p := ⟨w.heap.size, 0, none⟩) (Rec.lt_of_cell (HX1.out.1))).trans (HX1.out.1)) (And.intro ((bq.cell (p := ⟨w.heap.size, 1, none⟩) (Rec.lt_of_cell (HX1.out.2.1))).trans (HX1.out.2.1)) (And.intro ((bq.cell (p := ⟨w.heap.size, 2, none⟩) (Rec.lt_of_cell (HX1.out.2.2.1))).trans (HX1.out.2.2.1)) ((bq.cell (p := ⟨w.heap.size, 3, none⟩) (Rec.lt_of_cell (HX1.out.2.2.2))).trans (HX1.out.2.2.2))))); have HX2 := Lib.hid (And.intro ((bq.cell (p := ⟨w.heap.size + 1, 0, none⟩) (Rec.lt_of_cell (HX2.out.1))).trans (HX2.out.1)) (And.intro ((bq.cell (p := ⟨w.heap.size + 1, 1, none⟩) (Rec.lt_of_cell (HX2.out.2.1))).trans (HX2.out.2.1)) ((bq.cell (p := ⟨w.heap.size + 1, 2, none⟩) (Rec.lt_of_cell (HX2.out.2.2))).trans (HX2.out.2.2)))); have HY0 := Lib.hid (Rul.holds_below HY0.out (bq.mono (by have h9 := HB.out.size; omega))); have HY1 := Lib.hid (Flds.holds_below HY1.out (bq.mono (by have h9 := HB.out.size; omega))); have HY2 := Lib.hid (Flds.holds_below HY2.out (bq.mono (by have h9 := HB.out.size; omega))); have HXm := Lib.hid (Flds.holds_below HXm.out (bq.mono (by have h9 := HB.out.size; omega))); have HZ1_ := Lib.hid (And.intro ((bq.cell (p := ⟨x6.heap.size, 0, none⟩) (Rec.lt_of_cell (HZ1_.out.1))).trans (HZ1_.out.1)) (And.intro ((bq.cell (p := ⟨x6.heap.size, 1, none⟩) (Rec.lt_of_cell (HZ1_.out.2.1))).trans (HZ1_.out.2.1)) (And.intro ((bq.cell (p := ⟨x6.heap.size, 2, none⟩) (Rec.lt_of_cell (HZ1_.out.2.2.1))).trans (HZ1_.out.2.2.1)) ((bq.cell (p := ⟨x6.heap.size, 3, none⟩) (Rec.lt_of_cell (HZ1_.out.2.2.2))).trans (HZ1_.out.2.2.2))))); have HXr := Lib.hid (Flds.holds_below HXr.out (bq.mono (by have h9 := HB.out.size; omega))); have HZ2_ := Lib.hid (And.intro ((bq.cell (p := ⟨x8.heap.size, 0, none⟩) (Rec.lt_of_cell (HZ2_.out.1))).trans (HZ2_.out.1)) (And.intro ((bq.cell (p := ⟨x8.heap.size, 1, none⟩) (Rec.lt_of_cell (HZ2_.out.2.1))).trans (HZ2_.out.2.1)) ((bq.cell (p := ⟨x8.heap.size, 2, none⟩) (Rec.lt_of_cell (HZ2_.out.2.2))).trans (HZ2_.out.2.2)))); have HB := Lib.hid (Base.then_below HB.out bq); have HCm := Lib.hid (Flds.own_holds oC); clear oC; clear bq) | (go_at_call 26; refine (Msg.eq_req m1 h1 t1 (.slice aXm l1.length cpXm) l1 vC _ _ _ HXm.out HCm.out (by have h9 := HB.out.size; omega) (by omega) HL1.out).mono ?_; rintro e xr ⟨rfl, bq⟩; have hqz := bq.size; have HX1 := Lib.hid (And.intro ((bq.cell (p := ⟨w.heap.size, 0, none⟩) (Rec.lt_of_cell (HX1.out.1))).trans (HX1.out.1)) (And.intro ((bq.cell (p := ⟨w.heap.size, 1, none⟩) (Rec.lt_of_cell (HX1.out.2.1))).trans (HX1.out.2.1)) (And.intro ((bq.cell (p := ⟨w.heap.size, 2, none⟩) (Rec.lt_of_cell (HX1.out.2.2.1))).trans (HX1.out.2.2.1)) ((bq.cell (p := ⟨w.heap.size, 3, none⟩) (Rec.lt_of_cell (HX1.out.2.2.2))).trans (HX1.out.2.2.2))))); have HX2 := Lib.hid (And.intro ((bq.cell (p := ⟨w.heap.size + 1, 0, none⟩) (Rec.lt_of_cell (HX2.out.1))).trans (HX2.out.1)) (And.intro ((bq.cell (p := ⟨w.heap.size + 1, 1, none⟩) (Rec.lt_of_cell (HX2.out.2.1))).trans (HX2.out.2.1)) ((bq.cell (p := ⟨w.heap.size + 1, 2, none⟩) (Rec.lt_of_cell (HX2.out.2.2))).trans (HX2.out.2.2)))); have HY0 := Lib.hid (Rul.holds_below HY0.out (bq.mono (by have h9 := HB.out.size; omega))); have HY1 := Lib.hid (Flds.holds_below HY1.out (bq.mono (by have h9 := HB.out.size; omega))); have HY2 := Lib.hid (Flds.holds_below HY2.out (bq.mono (by have h9 := HB.out.size; omega))); have HXm := Lib.hid (Flds.holds_below HXm.out (bq.mono (by have h9 := HB.out.size; omega))); have HZ1_ := Lib.hid (And.intro ((bq.cell (p := ⟨x6.heap.size, 0, none⟩) (Rec.lt_of_cell (HZ1_.out.1))).trans (HZ1_.out.1)) (And.intro ((bq.cell (p := ⟨x6.heap.size, 1, none⟩) (Rec.lt_of_cell (HZ1_.out.2.1))).trans (HZ1_.out.2.1)) (And.intro ((bq.cell (p := ⟨x6.heap.size, 2, none⟩) (Rec.lt_of_cell (HZ1_.out.2.2.1))).trans (HZ1_.out.2.2.1)) ((bq.cell (p := ⟨x6.heap.size, 3, none⟩) (Rec.lt_of_cell (HZ1_.out.2.2.2))).trans (HZ1_.out.2.2.2))))); have HXr := Lib.hid (Flds.holds_below HXr.out (bq.mono (by have h9 := HB.out.size; omega))); have HZ2_ := Lib.hid (And.intro ((bq.cell (p := ⟨x8.heap.size, 0, none⟩) (Rec.lt_of_cell (HZ2_.out.1))).trans (HZ2_.out.1)) (And.intro ((bq.cell (p := ⟨x8.heap.size, 1, none⟩) (Rec.lt_of_cell (HZ2_.out.2.1))).trans (HZ2_.out.2.1)) ((bq.cell (p := ⟨x8.heap.size, 2, none⟩) (Rec.lt_of_cell (HZ2_.out.2.2))).trans (HZ2_.out.2.2)))); have HB := Lib.hid (Base.then_below HB.out bq); clear bq HCm))
  have HX1 : Hid (xr.drew.cell? ⟨w.heap.size, 0, none⟩ = some (.string ⟨m1.toArray⟩) ∧ xr.drew.cell? ⟨w.heap.size, 1, none⟩ = some (.string ⟨h1.toArray⟩) ∧ xr.drew.cell? ⟨w.heap.size, 2, none⟩ = some (.string ⟨t1.toArray⟩) ∧ xr.drew.cell? ⟨w.heap.size, 3, none⟩ = some (u1)) := Lib.hid HX1.out
  have HX2 : Hid (xr.drew.cell? ⟨w.heap.size + 1, 0, none⟩ = some (.int .i64 c2) ∧ xr.drew.cell? ⟨w.heap.size + 1, 1, none⟩ = some (u2) ∧ xr.drew.cell? ⟨w.heap.size + 1, 2, none⟩ = some (.string ⟨b2.toArray⟩)) := Lib.hid HX2.out
  have HY0 := Lib.hid (Rul.holds_below HY0.out (Rec.below_drew (Below.refl _ _)))
  have HY1 := Lib.hid (Flds.holds_below HY1.out (Rec.below_drew (Below.refl _ _)))
  have HY2 := Lib.hid (Flds.holds_below HY2.out (Rec.below_drew (Below.refl _ _)))
  have HXm := Lib.hid (Flds.holds_below HXm.out (Rec.below_drew (Below.refl _ _)))
  have HZ1_ : Hid (xr.drew.cell? ⟨x6.heap.size, 0, none⟩ = some (.string ⟨m1.toArray⟩) ∧ xr.drew.cell? ⟨x6.heap.size, 1, none⟩ = some (.string ⟨h1.toArray⟩) ∧ xr.drew.cell? ⟨x6.heap.size, 2, none⟩ = some (.string ⟨t1.toArray⟩) ∧ xr.drew.cell? ⟨x6.heap.size, 3, none⟩ = some ((.slice aXm l1.length cpXm))) := Lib.hid HZ1_.out
  have HXr := Lib.hid (Flds.holds_below HXr.out (Rec.below_drew (Below.refl _ _)))
  have HZ2_ : Hid (xr.drew.cell? ⟨x8.heap.size, 0, none⟩ = some (.int .i64 c2) ∧ xr.drew.cell? ⟨x8.heap.size, 1, none⟩ = some ((.slice aXr l2.length cpXr)) ∧ xr.drew.cell? ⟨x8.heap.size, 2, none⟩ = some (.string ⟨b2.toArray⟩)) := Lib.hid HZ2_.out
  have HB := Lib.hid (Rec.below_drew HB.out)
  have hdz14 : xr.drew.heap.size = xr.heap.size := rfl
  go_wp2
  go_region_held_law (fun u => u.cell? ⟨w.heap.size + 1, 0, none⟩ = some (.int .i64 c2) ∧ u.cell? ⟨w.heap.size + 1, 1, none⟩ = some (u2) ∧ u.cell? ⟨w.heap.size + 1, 2, none⟩ = some (.string ⟨b2.toArray⟩) ∧ u.cell? ⟨x8.heap.size, 0, none⟩ = some (.int .i64 c2) ∧ u.cell? ⟨x8.heap.size, 1, none⟩ = some ((.slice aXr l2.length cpXr)) ∧ u.cell? ⟨x8.heap.size, 2, none⟩ = some (.string ⟨b2.toArray⟩))
    (exact ⟨HX2.out.1, HX2.out.2.1, HX2.out.2.2, HZ2_.out.1, HZ2_.out.2.1, HZ2_.out.2.2⟩)
    (first | (go_at_call 23; refine (Msg.copy_rsp c2 u2 l2 b2 w.heap.size _ HY2.out (by have h9 := HB.out.size; omega) HL2.out).mono ?_; rintro e xq ⟨vD, rfl, oD, bq⟩; have hqz := bq.size; have HX1 := Lib.hid (And.intro ((bq.cell (p := ⟨w.heap.size, 0, none⟩) (Rec.lt_of_cell (HX1.out.1))).trans (HX1.out.1)) (And.intro ((bq.cell (p := ⟨w.heap.size, 1, none⟩) (Rec.lt_of_cell (HX1.out.2.1))).trans (HX1.out.2.1)) (And.intro ((bq.cell (p := ⟨w.heap.size, 2, none⟩) (Rec.lt_of_cell (HX1.out.2.2.1))).trans (HX1.out.2.2.1)) ((bq.cell (p := ⟨w.heap.size, 3, none⟩) (Rec.lt_of_cell (HX1.out.2.2.2))).trans (HX1.out.2.2.2))))); have HX2 := Lib.hid (And.intro ((bq.cell (p := ⟨w.heap.size + 1, 0, none⟩) (Rec.lt_of_cell (HX2.out.1))).trans (HX2.out.1)) (And.intro ((bq.cell (p := ⟨w.heap.size + 1, 1, none⟩) (Rec.lt_of_cell (HX2.out.2.1))).trans (HX2.out.2.1)) ((bq.cell (p := ⟨w.heap.size + 1, 2, none⟩) (Rec.lt_of_cell (HX2.out.2.2))).trans (HX2.out.2.2)))); have HY0 := Lib.hid (Rul.holds_below HY0.out (bq.mono (by have h9 := HB.out.size; omega))); have HY1 := Lib.hid (Flds.holds_below HY1.out (bq.mono (by have h9 := HB.out.size; omega))); have HY2 := Lib.hid (Flds.holds_below HY2.out (bq.mono (by have h9 := HB.out.size; omega))); have HXm := Lib.hid (Flds.holds_below HXm.out (bq.mono (by have h9 := HB.out.size; omega))); have HZ1_ := Lib.hid (And.intro ((bq.cell (p := ⟨x6.heap.size, 0, none⟩) (Rec.lt_of_cell (HZ1_.out.1))).trans (HZ1_.out.1)) (And.intro ((bq.cell (p := ⟨x6.heap.size, 1, none⟩) (Rec.lt_of_cell (HZ1_.out.2.1))).trans (HZ1_.out.2.1)) (And.intro ((bq.cell (p := ⟨x6.heap.size, 2, none⟩) (Rec.lt_of_cell (HZ1_.out.2.2.1))).trans (HZ1_.out.2.2.1)) ((bq.cell (p := ⟨x6.heap.size, 3, none⟩) (Rec.lt_of_cell (HZ1_.out.2.2.2))).trans (HZ1_.out.2.2.2))))); have HXr := Lib.hid (Flds.holds_below HXr.out (bq.mono (by have h9 := HB.out.size; omega))); have HZ2_ := Lib.hid (And.intro ((bq.cell (p := ⟨x8.heap.size, 0, none⟩) (Rec.lt_of_cell (HZ2_.out.1))).trans (HZ2_.out.1)) (And.intro ((bq.cell (p := ⟨x8.heap.size, 1, none⟩) (Rec.lt_of_cell (HZ2_.out.2.1))).trans (HZ2_.out.2.1)) ((bq.cell (p := ⟨x8.heap.size, 2, none⟩) (Rec.lt_of_cell (HZ2_.out.2.2))).trans (HZ2_.out.2.2)))); have HB := Lib.hid (Base.then_below HB.out bq); have HCm := Lib.hid (Flds.own_holds oD); clear oD; clear bq) | (go_at_call 27; refine (Msg.eq_rsp c2 (.slice aXr l2.length cpXr) l2 b2 vD _ _ _ HXr.out HCm.out (by have h9 := HB.out.size; omega) (by omega) HL2.out).mono ?_; rintro e xr ⟨rfl, bq⟩; have hqz := bq.size; have HX1 := Lib.hid (And.intro ((bq.cell (p := ⟨w.heap.size, 0, none⟩) (Rec.lt_of_cell (HX1.out.1))).trans (HX1.out.1)) (And.intro ((bq.cell (p := ⟨w.heap.size, 1, none⟩) (Rec.lt_of_cell (HX1.out.2.1))).trans (HX1.out.2.1)) (And.intro ((bq.cell (p := ⟨w.heap.size, 2, none⟩) (Rec.lt_of_cell (HX1.out.2.2.1))).trans (HX1.out.2.2.1)) ((bq.cell (p := ⟨w.heap.size, 3, none⟩) (Rec.lt_of_cell (HX1.out.2.2.2))).trans (HX1.out.2.2.2))))); have HX2 := Lib.hid (And.intro ((bq.cell (p := ⟨w.heap.size + 1, 0, none⟩) (Rec.lt_of_cell (HX2.out.1))).trans (HX2.out.1)) (And.intro ((bq.cell (p := ⟨w.heap.size + 1, 1, none⟩) (Rec.lt_of_cell (HX2.out.2.1))).trans (HX2.out.2.1)) ((bq.cell (p := ⟨w.heap.size + 1, 2, none⟩) (Rec.lt_of_cell (HX2.out.2.2))).trans (HX2.out.2.2)))); have HY0 := Lib.hid (Rul.holds_below HY0.out (bq.mono (by have h9 := HB.out.size; omega))); have HY1 := Lib.hid (Flds.holds_below HY1.out (bq.mono (by have h9 := HB.out.size; omega))); have HY2 := Lib.hid (Flds.holds_below HY2.out (bq.mono (by have h9 := HB.out.size; omega))); have HXm := Lib.hid (Flds.holds_below HXm.out (bq.mono (by have h9 := HB.out.size; omega))); have HZ1_ := Lib.hid (And.intro ((bq.cell (p := ⟨x6.heap.size, 0, none⟩) (Rec.lt_of_cell (HZ1_.out.1))).trans (HZ1_.out.1)) (And.intro ((bq.cell (p := ⟨x6.heap.size, 1, none⟩) (Rec.lt_of_cell (HZ1_.out.2.1))).trans (HZ1_.out.2.1)) (And.intro ((bq.cell (p := ⟨x6.heap.size, 2, none⟩) (Rec.lt_of_cell (HZ1_.out.2.2.1))).trans (HZ1_.out.2.2.1)) ((bq.cell (p := ⟨x6.heap.size, 3, none⟩) (Rec.lt_of_cell (HZ1_.out.2.2.2))).trans (HZ1_.out.2.2.2))))); have HXr := Lib.hid (Flds.holds_below HXr.out (bq.mono (by have h9 := HB.out.size; omega))); have HZ2_ := Lib.hid (And.intro ((bq.cell (p := ⟨x8.heap.size, 0, none⟩) (Rec.lt_of_cell (HZ2_.out.1))).trans (HZ2_.out.1)) (And.intro ((bq.cell (p := ⟨x8.heap.size, 1, none⟩) (Rec.lt_of_cell (HZ2_.out.2.1))).trans (HZ2_.out.2.1)) ((bq.cell (p := ⟨x8.heap.size, 2, none⟩) (Rec.lt_of_cell (HZ2_.out.2.2))).trans (HZ2_.out.2.2)))); have HB := Lib.hid (Base.then_below HB.out bq); clear bq HCm))
  go_wp2
  go_ret
  exact ⟨rfl, HB.out⟩

end Go.Proofs.YtidmppphlcfpjaaGreatDoor.fnExactLifeUnder
