/-
  For every page and time: the program's VersionAt gives what the model's gives, and changes nothing that was there; no condition but that the whole is not too long for the law's own measure.
-/
import Derived.Test.YtoledhjjbneggaaBase
import Derived.Carry
import Derived.Test.YtoledhjjbneggaaVat
import Derived.Test.YtoledhjjbneggaaResCp
namespace Go.Proofs.Ytoledhjjbneggaa.fnExactVersionAt
open Go.ChangeShapes Go.WideShapes Go.ChangeAt Go.RowKit
set_option linter.unusedVariables false

theorem own : ownKnob Try.prog.godebug = none := by kernel_rfl

theorem laidOut : laidOutB Try.prog = true := by kernel_rfl

set_option maxHeartbeats 4000000 in
theorem walk (t0 c0 k0 : List UInt8) (q0 : Bool) (u0 : Value) (s0 : List (List UInt8)) (z0 : Value) (n0 : List Ver.T) (a1 : Int) (w0 : Res.Ok t0 c0 k0 s0 n0) (w1 : (Lit.int .i64 a1).wf = true) (w : World) (y0 : Strs.Holds w w.heap.size u0 s0 ∧ Ver.Holds w w.heap.size z0 n0) :
    Calls Try.prog 7 #[.agg #[.string ⟨t0.toArray⟩, .string ⟨c0.toArray⟩, .string ⟨k0.toArray⟩, .bool q0, u0, z0], .int .i64 a1] w fun e w' => e = .returned (.bool true) ∧ Below w.heap.size w w' := by
  have HW0 := Lib.hid w0
  have HYs := Lib.hid y0.1
  have HYv := Lib.hid y0.2
  clear w0 y0
  have HB : Hid (Below w.heap.size w (w.alloc (.cells #[.string ⟨t0.toArray⟩, .string ⟨c0.toArray⟩, .string ⟨k0.toArray⟩, .bool q0, u0, z0] 34))) := Lib.hid ((Below.refl w.heap.size w).alloc (by simp) (.cells #[.string ⟨t0.toArray⟩, .string ⟨c0.toArray⟩, .string ⟨k0.toArray⟩, .bool q0, u0, z0] 34))
  have hz0' : w.heap.size < (w.alloc (.cells #[.string ⟨t0.toArray⟩, .string ⟨c0.toArray⟩, .string ⟨k0.toArray⟩, .bool q0, u0, z0] 34)).heap.size := by simp
  have HX0 : Hid ((w.alloc (.cells #[.string ⟨t0.toArray⟩, .string ⟨c0.toArray⟩, .string ⟨k0.toArray⟩, .bool q0, u0, z0] 34)).cell? ⟨w.heap.size, 0, none⟩ = some (.string ⟨t0.toArray⟩) ∧ (w.alloc (.cells #[.string ⟨t0.toArray⟩, .string ⟨c0.toArray⟩, .string ⟨k0.toArray⟩, .bool q0, u0, z0] 34)).cell? ⟨w.heap.size, 1, none⟩ = some (.string ⟨c0.toArray⟩) ∧ (w.alloc (.cells #[.string ⟨t0.toArray⟩, .string ⟨c0.toArray⟩, .string ⟨k0.toArray⟩, .bool q0, u0, z0] 34)).cell? ⟨w.heap.size, 2, none⟩ = some (.string ⟨k0.toArray⟩) ∧ (w.alloc (.cells #[.string ⟨t0.toArray⟩, .string ⟨c0.toArray⟩, .string ⟨k0.toArray⟩, .bool q0, u0, z0] 34)).cell? ⟨w.heap.size, 3, none⟩ = some (.bool q0) ∧ (w.alloc (.cells #[.string ⟨t0.toArray⟩, .string ⟨c0.toArray⟩, .string ⟨k0.toArray⟩, .bool q0, u0, z0] 34)).cell? ⟨w.heap.size, 4, none⟩ = some (u0) ∧ (w.alloc (.cells #[.string ⟨t0.toArray⟩, .string ⟨c0.toArray⟩, .string ⟨k0.toArray⟩, .bool q0, u0, z0] 34)).cell? ⟨w.heap.size, 5, none⟩ = some (z0)) := Lib.hid ⟨by rw [World.cell?_alloc_new]; rfl, by rw [World.cell?_alloc_new]; rfl, by rw [World.cell?_alloc_new]; rfl, by rw [World.cell?_alloc_new]; rfl, by rw [World.cell?_alloc_new]; rfl, by rw [World.cell?_alloc_new]; rfl⟩
  have HYs := Lib.hid (Strs.holds_below HYs.out (HB.out.mono (Nat.le_refl _)))
  have HYv := Lib.hid (Ver.holds_below HYv.out (HB.out.mono (Nat.le_refl _)))
  have hszw := HB.out.size
  go_enter Try.func7, Try.ntmps7
  have HX0o := HX0.out
  obtain ⟨hx0_0, hx0_1, hx0_2, hx0_3, hx0_4, hx0_5⟩ := HX0o
  go_wp2_with (fail)
  go_at_call 14
  refine (Res.size_res t0 c0 k0 q0 u0 s0 z0 n0 _ w.heap.size _ HYs.out HYv.out (by omega) HW0.out (by decide) (by decide)).mono ?_
  rintro e x1 ⟨z_0, rfl, hz0, b1⟩
  have hs1 := b1.size
  clear hx0_0 hx0_1 hx0_2 hx0_3 hx0_4 hx0_5
  have HX0 := Lib.hid (And.intro ((b1.cell (p := ⟨w.heap.size, 0, none⟩) (Rec.lt_of_cell (HX0.out.1))).trans (HX0.out.1)) (And.intro ((b1.cell (p := ⟨w.heap.size, 1, none⟩) (Rec.lt_of_cell (HX0.out.2.1))).trans (HX0.out.2.1)) (And.intro ((b1.cell (p := ⟨w.heap.size, 2, none⟩) (Rec.lt_of_cell (HX0.out.2.2.1))).trans (HX0.out.2.2.1)) (And.intro ((b1.cell (p := ⟨w.heap.size, 3, none⟩) (Rec.lt_of_cell (HX0.out.2.2.2.1))).trans (HX0.out.2.2.2.1)) (And.intro ((b1.cell (p := ⟨w.heap.size, 4, none⟩) (Rec.lt_of_cell (HX0.out.2.2.2.2.1))).trans (HX0.out.2.2.2.2.1)) ((b1.cell (p := ⟨w.heap.size, 5, none⟩) (Rec.lt_of_cell (HX0.out.2.2.2.2.2))).trans (HX0.out.2.2.2.2.2)))))))
  have HYs := Lib.hid (Strs.holds_below HYs.out (b1.mono (by omega)))
  have HYv := Lib.hid (Ver.holds_below HYv.out (b1.mono (by omega)))
  have HB := Lib.hid (Base.then_below HB.out b1)
  clear b1
  rcases hz0 with hz0 | ⟨hz0, ht0⟩
  · go_wp2
    go_ret
    exact ⟨rfl, HB.out⟩
  have hzn0 : ¬ z_0 < 0 := by omega
  have HZ0 : Hid (z_0 + ((Res.tot t0 c0 k0 s0 n0 : Nat) : Int) = 1048576) := Lib.hid (by omega)
  clear ht0
  have HT0 : Hid (t0.length + c0.length + k0.length + Strs.total s0 + Ver.total n0 ≤ 1048576) := Lib.hid (by have := HZ0.out; unfold Res.tot at this; omega)
  have HLs : Hid (s0.length ≤ 1048576) := Lib.hid (by have := HT0.out; unfold Strs.total at this; omega)
  have HLv : Hid (n0.length ≤ 1048576) := Lib.hid (Nat.le_trans (Ver.len_le_total n0) (by have := HT0.out; omega))
  have HLc : Hid (c0.length ≤ 1048576) := Lib.hid (by have := HT0.out; omega)
  obtain ⟨g0, hg0⟩ : ∃ z, z = Ver.vat a1 n0 := ⟨_, rfl⟩
  have HGg0 := Lib.hid hg0
  clear hg0
  have HX0o := HX0.out
  obtain ⟨hx0_0, hx0_1, hx0_2, hx0_3, hx0_4, hx0_5⟩ := HX0o
  go_wp2_with (fail)
  go_at_call 16
  refine (Res.copy_res t0 c0 k0 q0 u0 s0 z0 n0 w.heap.size _ HYs.out HYv.out (by have h9 := HB.out.size; omega) HLs.out HLv.out).mono ?_
  rintro e x2 ⟨vA, yA, rfl, oA, pA, b2⟩
  have hs2 := b2.size
  obtain ⟨aA, cpA, rfl, _⟩ := Rec.shape_at oA
  obtain ⟨dA, dpA, rfl, _⟩ := Rec.shape_at pA
  clear hx0_0 hx0_1 hx0_2 hx0_3 hx0_4 hx0_5
  have HX0 := Lib.hid (And.intro ((b2.cell (p := ⟨w.heap.size, 0, none⟩) (Rec.lt_of_cell (HX0.out.1))).trans (HX0.out.1)) (And.intro ((b2.cell (p := ⟨w.heap.size, 1, none⟩) (Rec.lt_of_cell (HX0.out.2.1))).trans (HX0.out.2.1)) (And.intro ((b2.cell (p := ⟨w.heap.size, 2, none⟩) (Rec.lt_of_cell (HX0.out.2.2.1))).trans (HX0.out.2.2.1)) (And.intro ((b2.cell (p := ⟨w.heap.size, 3, none⟩) (Rec.lt_of_cell (HX0.out.2.2.2.1))).trans (HX0.out.2.2.2.1)) (And.intro ((b2.cell (p := ⟨w.heap.size, 4, none⟩) (Rec.lt_of_cell (HX0.out.2.2.2.2.1))).trans (HX0.out.2.2.2.2.1)) ((b2.cell (p := ⟨w.heap.size, 5, none⟩) (Rec.lt_of_cell (HX0.out.2.2.2.2.2))).trans (HX0.out.2.2.2.2.2)))))))
  have HYs := Lib.hid (Strs.holds_below HYs.out (b2.mono (by omega)))
  have HYv := Lib.hid (Ver.holds_below HYv.out (b2.mono (by omega)))
  have HB := Lib.hid (Base.then_below HB.out b2)
  clear b2
  have HAs := Lib.hid (Strs.own_holds oA)
  have HAv := Lib.hid (Ver.own_holds pA)
  clear oA pA
  go_wp2_with (fail)
  go_at_call 24
  refine (Ver.spec_vat t0 c0 k0 q0 (.slice aA s0.length cpA) (.slice dA n0.length dpA) n0 a1 _ _ HAv.out (by have h9 := HB.out.size; omega) HLv.out).mono ?_
  rintro e x3 ⟨he, b3⟩
  rw [← HGg0.out] at he
  subst he
  have hs3 := b3.size
  have HX0 := Lib.hid (And.intro ((b3.cell (p := ⟨w.heap.size, 0, none⟩) (Rec.lt_of_cell (HX0.out.1))).trans (HX0.out.1)) (And.intro ((b3.cell (p := ⟨w.heap.size, 1, none⟩) (Rec.lt_of_cell (HX0.out.2.1))).trans (HX0.out.2.1)) (And.intro ((b3.cell (p := ⟨w.heap.size, 2, none⟩) (Rec.lt_of_cell (HX0.out.2.2.1))).trans (HX0.out.2.2.1)) (And.intro ((b3.cell (p := ⟨w.heap.size, 3, none⟩) (Rec.lt_of_cell (HX0.out.2.2.2.1))).trans (HX0.out.2.2.2.1)) (And.intro ((b3.cell (p := ⟨w.heap.size, 4, none⟩) (Rec.lt_of_cell (HX0.out.2.2.2.2.1))).trans (HX0.out.2.2.2.2.1)) ((b3.cell (p := ⟨w.heap.size, 5, none⟩) (Rec.lt_of_cell (HX0.out.2.2.2.2.2))).trans (HX0.out.2.2.2.2.2)))))))
  have HYs := Lib.hid (Strs.holds_below HYs.out (b3.mono (by omega)))
  have HYv := Lib.hid (Ver.holds_below HYv.out (b3.mono (by omega)))
  have HB := Lib.hid (Base.then_below HB.out b3)
  clear b3
  have HX0o := HX0.out
  obtain ⟨hx0_0, hx0_1, hx0_2, hx0_3, hx0_4, hx0_5⟩ := HX0o
  go_wp2_with (fail)
  go_at_call 16
  refine (Res.copy_res t0 c0 k0 q0 u0 s0 z0 n0 w.heap.size _ HYs.out HYv.out (by have h9 := HB.out.size; omega) HLs.out HLv.out).mono ?_
  rintro e x4 ⟨vX, yX, rfl, oX, pX, b4⟩
  have hs4 := b4.size
  obtain ⟨aX, cpX, rfl, _⟩ := Rec.shape_at oX
  obtain ⟨dX, dpX, rfl, _⟩ := Rec.shape_at pX
  clear hx0_0 hx0_1 hx0_2 hx0_3 hx0_4 hx0_5
  have HX0 := Lib.hid (And.intro ((b4.cell (p := ⟨w.heap.size, 0, none⟩) (Rec.lt_of_cell (HX0.out.1))).trans (HX0.out.1)) (And.intro ((b4.cell (p := ⟨w.heap.size, 1, none⟩) (Rec.lt_of_cell (HX0.out.2.1))).trans (HX0.out.2.1)) (And.intro ((b4.cell (p := ⟨w.heap.size, 2, none⟩) (Rec.lt_of_cell (HX0.out.2.2.1))).trans (HX0.out.2.2.1)) (And.intro ((b4.cell (p := ⟨w.heap.size, 3, none⟩) (Rec.lt_of_cell (HX0.out.2.2.2.1))).trans (HX0.out.2.2.2.1)) (And.intro ((b4.cell (p := ⟨w.heap.size, 4, none⟩) (Rec.lt_of_cell (HX0.out.2.2.2.2.1))).trans (HX0.out.2.2.2.2.1)) ((b4.cell (p := ⟨w.heap.size, 5, none⟩) (Rec.lt_of_cell (HX0.out.2.2.2.2.2))).trans (HX0.out.2.2.2.2.2)))))))
  have HYs := Lib.hid (Strs.holds_below HYs.out (b4.mono (by omega)))
  have HYv := Lib.hid (Ver.holds_below HYv.out (b4.mono (by omega)))
  have HB := Lib.hid (Base.then_below HB.out b4)
  clear b4
  have HXs := Lib.hid (Strs.own_holds oX)
  have HXv := Lib.hid (Ver.own_holds pX)
  clear oX pX
  have hsa5 : (x4.alloc (.cells #[.string ⟨t0.toArray⟩, .string ⟨c0.toArray⟩, .string ⟨k0.toArray⟩, .bool q0, (.slice aX s0.length cpX), (.slice dX n0.length dpX)] 39)).heap.size = x4.heap.size + 1 := by simp
  have HX0 := Lib.hid (And.intro ((((Below.refl x4.heap.size x4).alloc (Nat.le_refl _) (.cells #[.string ⟨t0.toArray⟩, .string ⟨c0.toArray⟩, .string ⟨k0.toArray⟩, .bool q0, (.slice aX s0.length cpX), (.slice dX n0.length dpX)] 39)).cell (p := ⟨w.heap.size, 0, none⟩) (Rec.lt_of_cell (HX0.out.1))).trans (HX0.out.1)) (And.intro ((((Below.refl x4.heap.size x4).alloc (Nat.le_refl _) (.cells #[.string ⟨t0.toArray⟩, .string ⟨c0.toArray⟩, .string ⟨k0.toArray⟩, .bool q0, (.slice aX s0.length cpX), (.slice dX n0.length dpX)] 39)).cell (p := ⟨w.heap.size, 1, none⟩) (Rec.lt_of_cell (HX0.out.2.1))).trans (HX0.out.2.1)) (And.intro ((((Below.refl x4.heap.size x4).alloc (Nat.le_refl _) (.cells #[.string ⟨t0.toArray⟩, .string ⟨c0.toArray⟩, .string ⟨k0.toArray⟩, .bool q0, (.slice aX s0.length cpX), (.slice dX n0.length dpX)] 39)).cell (p := ⟨w.heap.size, 2, none⟩) (Rec.lt_of_cell (HX0.out.2.2.1))).trans (HX0.out.2.2.1)) (And.intro ((((Below.refl x4.heap.size x4).alloc (Nat.le_refl _) (.cells #[.string ⟨t0.toArray⟩, .string ⟨c0.toArray⟩, .string ⟨k0.toArray⟩, .bool q0, (.slice aX s0.length cpX), (.slice dX n0.length dpX)] 39)).cell (p := ⟨w.heap.size, 3, none⟩) (Rec.lt_of_cell (HX0.out.2.2.2.1))).trans (HX0.out.2.2.2.1)) (And.intro ((((Below.refl x4.heap.size x4).alloc (Nat.le_refl _) (.cells #[.string ⟨t0.toArray⟩, .string ⟨c0.toArray⟩, .string ⟨k0.toArray⟩, .bool q0, (.slice aX s0.length cpX), (.slice dX n0.length dpX)] 39)).cell (p := ⟨w.heap.size, 4, none⟩) (Rec.lt_of_cell (HX0.out.2.2.2.2.1))).trans (HX0.out.2.2.2.2.1)) ((((Below.refl x4.heap.size x4).alloc (Nat.le_refl _) (.cells #[.string ⟨t0.toArray⟩, .string ⟨c0.toArray⟩, .string ⟨k0.toArray⟩, .bool q0, (.slice aX s0.length cpX), (.slice dX n0.length dpX)] 39)).cell (p := ⟨w.heap.size, 5, none⟩) (Rec.lt_of_cell (HX0.out.2.2.2.2.2))).trans (HX0.out.2.2.2.2.2)))))))
  have HYs := Lib.hid (Strs.holds_below HYs.out (((Below.refl x4.heap.size x4).alloc (Nat.le_refl _) (.cells #[.string ⟨t0.toArray⟩, .string ⟨c0.toArray⟩, .string ⟨k0.toArray⟩, .bool q0, (.slice aX s0.length cpX), (.slice dX n0.length dpX)] 39)).mono (by omega)))
  have HYv := Lib.hid (Ver.holds_below HYv.out (((Below.refl x4.heap.size x4).alloc (Nat.le_refl _) (.cells #[.string ⟨t0.toArray⟩, .string ⟨c0.toArray⟩, .string ⟨k0.toArray⟩, .bool q0, (.slice aX s0.length cpX), (.slice dX n0.length dpX)] 39)).mono (by omega)))
  have HXs := Lib.hid (Strs.holds_below HXs.out (((Below.refl x4.heap.size x4).alloc (Nat.le_refl _) (.cells #[.string ⟨t0.toArray⟩, .string ⟨c0.toArray⟩, .string ⟨k0.toArray⟩, .bool q0, (.slice aX s0.length cpX), (.slice dX n0.length dpX)] 39)).mono (by omega)))
  have HXv := Lib.hid (Ver.holds_below HXv.out (((Below.refl x4.heap.size x4).alloc (Nat.le_refl _) (.cells #[.string ⟨t0.toArray⟩, .string ⟨c0.toArray⟩, .string ⟨k0.toArray⟩, .bool q0, (.slice aX s0.length cpX), (.slice dX n0.length dpX)] 39)).mono (by omega)))
  have HB := Lib.hid (HB.out.alloc HB.out.size (.cells #[.string ⟨t0.toArray⟩, .string ⟨c0.toArray⟩, .string ⟨k0.toArray⟩, .bool q0, (.slice aX s0.length cpX), (.slice dX n0.length dpX)] 39))
  have HZX : Hid ((x4.alloc (.cells #[.string ⟨t0.toArray⟩, .string ⟨c0.toArray⟩, .string ⟨k0.toArray⟩, .bool q0, (.slice aX s0.length cpX), (.slice dX n0.length dpX)] 39)).cell? ⟨x4.heap.size, 0, none⟩ = some (.string ⟨t0.toArray⟩) ∧ (x4.alloc (.cells #[.string ⟨t0.toArray⟩, .string ⟨c0.toArray⟩, .string ⟨k0.toArray⟩, .bool q0, (.slice aX s0.length cpX), (.slice dX n0.length dpX)] 39)).cell? ⟨x4.heap.size, 1, none⟩ = some (.string ⟨c0.toArray⟩) ∧ (x4.alloc (.cells #[.string ⟨t0.toArray⟩, .string ⟨c0.toArray⟩, .string ⟨k0.toArray⟩, .bool q0, (.slice aX s0.length cpX), (.slice dX n0.length dpX)] 39)).cell? ⟨x4.heap.size, 2, none⟩ = some (.string ⟨k0.toArray⟩) ∧ (x4.alloc (.cells #[.string ⟨t0.toArray⟩, .string ⟨c0.toArray⟩, .string ⟨k0.toArray⟩, .bool q0, (.slice aX s0.length cpX), (.slice dX n0.length dpX)] 39)).cell? ⟨x4.heap.size, 3, none⟩ = some (.bool q0) ∧ (x4.alloc (.cells #[.string ⟨t0.toArray⟩, .string ⟨c0.toArray⟩, .string ⟨k0.toArray⟩, .bool q0, (.slice aX s0.length cpX), (.slice dX n0.length dpX)] 39)).cell? ⟨x4.heap.size, 4, none⟩ = some ((.slice aX s0.length cpX)) ∧ (x4.alloc (.cells #[.string ⟨t0.toArray⟩, .string ⟨c0.toArray⟩, .string ⟨k0.toArray⟩, .bool q0, (.slice aX s0.length cpX), (.slice dX n0.length dpX)] 39)).cell? ⟨x4.heap.size, 5, none⟩ = some ((.slice dX n0.length dpX))) := Lib.hid ⟨by rw [World.cell?_alloc_new]; rfl, by rw [World.cell?_alloc_new]; rfl, by rw [World.cell?_alloc_new]; rfl, by rw [World.cell?_alloc_new]; rfl, by rw [World.cell?_alloc_new]; rfl, by rw [World.cell?_alloc_new]; rfl⟩
  have HZXo := HZX.out
  obtain ⟨hzx_0, hzx_1, hzx_2, hzx_3, hzx_4, hzx_5⟩ := HZXo
  go_wp2_with (fail)
  go_at_call 25
  refine (Ver.impl_vat t0 c0 k0 q0 (.slice aX s0.length cpX) (.slice dX n0.length dpX) n0 a1 _ _ HXv.out (by have h9 := HB.out.size; omega) HLv.out).mono ?_
  rintro e x6 ⟨he, b6⟩
  rw [← HGg0.out] at he
  subst he
  have hs6 := b6.size
  clear hzx_0 hzx_1 hzx_2 hzx_3 hzx_4 hzx_5
  have HX0 := Lib.hid (And.intro ((b6.cell (p := ⟨w.heap.size, 0, none⟩) (Rec.lt_of_cell (HX0.out.1))).trans (HX0.out.1)) (And.intro ((b6.cell (p := ⟨w.heap.size, 1, none⟩) (Rec.lt_of_cell (HX0.out.2.1))).trans (HX0.out.2.1)) (And.intro ((b6.cell (p := ⟨w.heap.size, 2, none⟩) (Rec.lt_of_cell (HX0.out.2.2.1))).trans (HX0.out.2.2.1)) (And.intro ((b6.cell (p := ⟨w.heap.size, 3, none⟩) (Rec.lt_of_cell (HX0.out.2.2.2.1))).trans (HX0.out.2.2.2.1)) (And.intro ((b6.cell (p := ⟨w.heap.size, 4, none⟩) (Rec.lt_of_cell (HX0.out.2.2.2.2.1))).trans (HX0.out.2.2.2.2.1)) ((b6.cell (p := ⟨w.heap.size, 5, none⟩) (Rec.lt_of_cell (HX0.out.2.2.2.2.2))).trans (HX0.out.2.2.2.2.2)))))))
  have HYs := Lib.hid (Strs.holds_below HYs.out (b6.mono (by omega)))
  have HYv := Lib.hid (Ver.holds_below HYv.out (b6.mono (by omega)))
  have HXs := Lib.hid (Strs.holds_below HXs.out (b6.mono (by omega)))
  have HXv := Lib.hid (Ver.holds_below HXv.out (b6.mono (by omega)))
  have HZX := Lib.hid (And.intro ((b6.cell (p := ⟨x4.heap.size, 0, none⟩) (Rec.lt_of_cell (HZX.out.1))).trans (HZX.out.1)) (And.intro ((b6.cell (p := ⟨x4.heap.size, 1, none⟩) (Rec.lt_of_cell (HZX.out.2.1))).trans (HZX.out.2.1)) (And.intro ((b6.cell (p := ⟨x4.heap.size, 2, none⟩) (Rec.lt_of_cell (HZX.out.2.2.1))).trans (HZX.out.2.2.1)) (And.intro ((b6.cell (p := ⟨x4.heap.size, 3, none⟩) (Rec.lt_of_cell (HZX.out.2.2.2.1))).trans (HZX.out.2.2.2.1)) (And.intro ((b6.cell (p := ⟨x4.heap.size, 4, none⟩) (Rec.lt_of_cell (HZX.out.2.2.2.2.1))).trans (HZX.out.2.2.2.2.1)) ((b6.cell (p := ⟨x4.heap.size, 5, none⟩) (Rec.lt_of_cell (HZX.out.2.2.2.2.2))).trans (HZX.out.2.2.2.2.2)))))))
  have HB := Lib.hid (Base.then_below HB.out b6)
  clear b6
  have HX0 : Hid (x6.drew.cell? ⟨w.heap.size, 0, none⟩ = some (.string ⟨t0.toArray⟩) ∧ x6.drew.cell? ⟨w.heap.size, 1, none⟩ = some (.string ⟨c0.toArray⟩) ∧ x6.drew.cell? ⟨w.heap.size, 2, none⟩ = some (.string ⟨k0.toArray⟩) ∧ x6.drew.cell? ⟨w.heap.size, 3, none⟩ = some (.bool q0) ∧ x6.drew.cell? ⟨w.heap.size, 4, none⟩ = some (u0) ∧ x6.drew.cell? ⟨w.heap.size, 5, none⟩ = some (z0)) := Lib.hid HX0.out
  have HZX : Hid (x6.drew.cell? ⟨x4.heap.size, 0, none⟩ = some (.string ⟨t0.toArray⟩) ∧ x6.drew.cell? ⟨x4.heap.size, 1, none⟩ = some (.string ⟨c0.toArray⟩) ∧ x6.drew.cell? ⟨x4.heap.size, 2, none⟩ = some (.string ⟨k0.toArray⟩) ∧ x6.drew.cell? ⟨x4.heap.size, 3, none⟩ = some (.bool q0) ∧ x6.drew.cell? ⟨x4.heap.size, 4, none⟩ = some ((.slice aX s0.length cpX)) ∧ x6.drew.cell? ⟨x4.heap.size, 5, none⟩ = some ((.slice dX n0.length dpX))) := Lib.hid HZX.out
  have HYs : Hid (Strs.Holds x6.drew w.heap.size u0 s0) := Lib.hid HYs.out
  have HYv : Hid (Ver.Holds x6.drew w.heap.size z0 n0) := Lib.hid HYv.out
  have HXs : Hid (Strs.Holds x6.drew _ (.slice aX s0.length cpX) s0) := Lib.hid HXs.out
  have HXv : Hid (Ver.Holds x6.drew _ (.slice dX n0.length dpX) n0) := Lib.hid HXv.out
  have HB := Lib.hid (Rec.below_drew HB.out)
  have hdz7 : x6.drew.heap.size = x6.heap.size := rfl
  have qhx0_0 := HX0.out.1
  have qhx0_1 := HX0.out.2.1
  have qhx0_2 := HX0.out.2.2.1
  have qhx0_3 := HX0.out.2.2.2.1
  have qhx0_4 := HX0.out.2.2.2.2.1
  have qhx0_5 := HX0.out.2.2.2.2.2
  have qhzx_0 := HZX.out.1
  have qhzx_1 := HZX.out.2.1
  have qhzx_2 := HZX.out.2.2.1
  have qhzx_3 := HZX.out.2.2.2.1
  have qhzx_4 := HZX.out.2.2.2.2.1
  have qhzx_5 := HZX.out.2.2.2.2.2
  go_wp2
  go_region_with (first | (go_at_call 16; refine (Res.copy_res t0 c0 k0 q0 u0 s0 z0 n0 w.heap.size _ HYs.out HYv.out (by have h9 := HB.out.size; omega) HLs.out HLv.out).mono ?_; rintro e xq ⟨vC, yC, rfl, oC, pC, bq⟩; clear qhx0_0 qhx0_1 qhx0_2 qhx0_3 qhx0_4 qhx0_5 qhzx_0 qhzx_1 qhzx_2 qhzx_3 qhzx_4 qhzx_5; have hqz := bq.size; have HX0 := Lib.hid (And.intro ((bq.cell (p := ⟨w.heap.size, 0, none⟩) (Rec.lt_of_cell (HX0.out.1))).trans (HX0.out.1)) (And.intro ((bq.cell (p := ⟨w.heap.size, 1, none⟩) (Rec.lt_of_cell (HX0.out.2.1))).trans (HX0.out.2.1)) (And.intro ((bq.cell (p := ⟨w.heap.size, 2, none⟩) (Rec.lt_of_cell (HX0.out.2.2.1))).trans (HX0.out.2.2.1)) (And.intro ((bq.cell (p := ⟨w.heap.size, 3, none⟩) (Rec.lt_of_cell (HX0.out.2.2.2.1))).trans (HX0.out.2.2.2.1)) (And.intro ((bq.cell (p := ⟨w.heap.size, 4, none⟩) (Rec.lt_of_cell (HX0.out.2.2.2.2.1))).trans (HX0.out.2.2.2.2.1)) ((bq.cell (p := ⟨w.heap.size, 5, none⟩) (Rec.lt_of_cell (HX0.out.2.2.2.2.2))).trans (HX0.out.2.2.2.2.2))))))); have HZX := Lib.hid (And.intro ((bq.cell (p := ⟨x4.heap.size, 0, none⟩) (Rec.lt_of_cell (HZX.out.1))).trans (HZX.out.1)) (And.intro ((bq.cell (p := ⟨x4.heap.size, 1, none⟩) (Rec.lt_of_cell (HZX.out.2.1))).trans (HZX.out.2.1)) (And.intro ((bq.cell (p := ⟨x4.heap.size, 2, none⟩) (Rec.lt_of_cell (HZX.out.2.2.1))).trans (HZX.out.2.2.1)) (And.intro ((bq.cell (p := ⟨x4.heap.size, 3, none⟩) (Rec.lt_of_cell (HZX.out.2.2.2.1))).trans (HZX.out.2.2.2.1)) (And.intro ((bq.cell (p := ⟨x4.heap.size, 4, none⟩) (Rec.lt_of_cell (HZX.out.2.2.2.2.1))).trans (HZX.out.2.2.2.2.1)) ((bq.cell (p := ⟨x4.heap.size, 5, none⟩) (Rec.lt_of_cell (HZX.out.2.2.2.2.2))).trans (HZX.out.2.2.2.2.2))))))); have HYs := Lib.hid (Strs.holds_below HYs.out (bq.mono (by have h9 := HB.out.size; omega))); have HYv := Lib.hid (Ver.holds_below HYv.out (bq.mono (by have h9 := HB.out.size; omega))); have HXs := Lib.hid (Strs.holds_below HXs.out (bq.mono (by have h9 := HB.out.size; omega))); have HXv := Lib.hid (Ver.holds_below HXv.out (bq.mono (by have h9 := HB.out.size; omega))); have HB := Lib.hid (Base.then_below HB.out bq); have HCs := Lib.hid (Strs.own_holds oC); have HCv := Lib.hid (Ver.own_holds pC); have qhx0_0 := HX0.out.1; have qhx0_1 := HX0.out.2.1; have qhx0_2 := HX0.out.2.2.1; have qhx0_3 := HX0.out.2.2.2.1; have qhx0_4 := HX0.out.2.2.2.2.1; have qhx0_5 := HX0.out.2.2.2.2.2; have qhzx_0 := HZX.out.1; have qhzx_1 := HZX.out.2.1; have qhzx_2 := HZX.out.2.2.1; have qhzx_3 := HZX.out.2.2.2.1; have qhzx_4 := HZX.out.2.2.2.2.1; have qhzx_5 := HZX.out.2.2.2.2.2; clear bq oC pC) | (go_at_call 18; refine (Res.eq_res t0 c0 k0 q0 (.slice aX s0.length cpX) s0 (.slice dX n0.length dpX) n0 vC yC _ _ _ HXs.out HXv.out HCs.out HCv.out (by have h9 := HB.out.size; omega) (by omega) HLs.out HLv.out).mono ?_; rintro e xq ⟨rfl, bq⟩; have HB := Lib.hid (Base.then_below HB.out bq); clear bq HXs HXv HCs HCv qhx0_0 qhx0_1 qhx0_2 qhx0_3 qhx0_4 qhx0_5 qhzx_0 qhzx_1 qhzx_2 qhzx_3 qhzx_4 qhzx_5))
  all_goals go_wp2
  all_goals go_ret
  all_goals exact ⟨rfl, HB.out⟩

set_option maxRecDepth 100000 in
theorem lifted (os : Os) (started : os.Started) (H : Type) (enc : TypeId × Value → H) :
    ReturnsInHanded {} Try.checked os 7 .any (Rows.fnExactVersionAtSpec.pre6 enc Try.prog Try.f7 Rows.fnExactVersionAtRow.domain false) (Rows.fnExactVersionAtSpec.post enc Try.prog Try.f7 false true false false) := by
  refine returnsInHanded_of_change (C := Try.checked) own started (by kernel_rfl) Try.func7
    (ChangeSpec.witness6 (enc := enc) (C := Try.checked) false ⟨#[], #[.agg #[.string ⟨#[]⟩, .string ⟨#[]⟩, .string ⟨#[]⟩, .bool false, .slice none 0 0, .slice none 0 0], .int .i64 0], []⟩ 8 (by kernel_rfl) (by kernel_rfl) (by kernel_rfl) (by kernel_rfl)) ?_
  intro W base args ds gs before hval0 hW hcnd _
  have hval : ∀ (j : Nat) t v, Try.f7.params[j]? = some t → args[j]? = some v → Value.okWide Try.prog W .any base t v := hval0
  have hW' := hW
  obtain ⟨p, q, hA0, hV, rfl, hfz, hnd⟩ := hW
  have hA : DataW.TrodAll enc Try.prog W 0 (fun _ => true) true Try.f7.params.toList args.toList ds p := hA0
  rw [Try.params7] at hA hval
  obtain ⟨v0, vs0, d0, ds0, p0, q0, hargs, rfl, rfl, h0, r0⟩ := trodAll_cons hA
  obtain ⟨v1, vs1, d1, ds1, p1, q1, rfl, rfl, rfl, h1, r1⟩ := trodAll_cons r0
  obtain ⟨rfl, rfl, rfl⟩ := trodAll_nil r1
  obtain rfl : args = #[v0, v1] := by cases args; simp_all
  obtain ⟨rfl, rfl⟩ := trodVars_none hV
  have k0 := h0
  obtain ⟨t0, c0, k0_, q0_, u0, s0, z0, n0, rfl, y0a, y0b, w0⟩ := Res.open_res (hval 0 34 v0 rfl rfl) h0
  have y0 := And.intro y0a y0b
  have k1 := h1
  obtain ⟨a1, rfl, rfl, rfl, w1⟩ := open_int Try.underlying3 (hval 1 3 v1 rfl rfl) h1
  clear hA0 hval0
  simp only [List.append_nil] at hW'
  refine (walk t0 c0 k0_ q0_ u0 s0 z0 n0 a1 w0 w1 W y0).mono fun e W' ⟨he, hb⟩ => ?_
  subst he
  exact ⟨_, rfl, ⟨_, _, _, [], _, [], hW', (trodAll_cons_mk (shut_bool Try.underlying4 _) trodAll_mk0), (trodAll_cons_mk (Below.trod laidOut (by kernel_rfl) (of_decide_eq_true (by kernel_rfl)) k0 hb (fun x hx => hW'.lt x (by simp [hx]))) (trodAll_cons_mk (shut_int Try.underlying3 w1) trodAll_mk0)), rfl, hb.frame _, fun h => by cases h⟩⟩

theorem over : Rows.fnExactVersionAtRow.holds Try.pinned (OpenSpec.ofChange Rows.fnExactVersionAtSpec) :=
  OpenClaim.holds_of_wide 7 Try.f7 rfl rfl rfl rfl rfl rfl rfl ⟨rfl, rfl, rfl, rfl, rfl⟩ rfl rfl rfl rfl rfl (by kernel_rfl) Try.func7 (by kernel_rfl)
    (of_decide_eq_true (by kernel_rfl)) (by unfold Func.isWrapper; first | (rw [if_pos (by decide +kernel)]; kernel_rfl) | (rw [if_neg (by decide +kernel)]; exact ⟨rfl, rfl⟩))
    (fun os started H enc _ => lifted os started H enc)

/-- The given statement. -/
theorem proved : Rows.FnExactVersionAtSaid :=
  over
#print axioms proved
end Go.Proofs.Ytoledhjjbneggaa.fnExactVersionAt
