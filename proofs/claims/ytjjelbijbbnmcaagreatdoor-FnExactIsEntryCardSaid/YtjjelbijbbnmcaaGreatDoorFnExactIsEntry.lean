/-
  PROVED: at every entry the program's IsEntry gives what its model gives and writes into no argument: the exact law of IsEntry returns true and leaves its argument as it was. CONDITION: the program's tables of weekdays, months and days of months and the library's table of powers of ten read as their texts lay them, the other listed variables as pinned (the card ties them to the text of the pruned project).
-/
import Derived.Test.YtjjelbijbbnmcaaGreatDoorPartA
import Derived.Carry
import Derived.Test.YtjjelbijbbnmcaaGreatDoorPartAL
import Derived.Test.YtjjelbijbbnmcaaGreatDoorPartAM
import Derived.Test.YtjjelbijbbnmcaaGreatDoorPartAQ
import Derived.Test.YtjjelbijbbnmcaaGreatDoorPartR
import Derived.Test.YtjjelbijbbnmcaaGreatDoorTie
import Derived.Test.YtjjelbijbbnmcaaGreatDoorCards
import Derived.LaidMore
import Derived.Lay
import Derived.OpenVars
import Derived.Stop.LaidErr
import Derived.RegionTactic
import Derived.Deep.RegionWith
namespace Go.Proofs.YtjjelbijbbnmcaaGreatDoor.fnExactIsEntry
open Go.ChangeShapes Go.WideShapes Go.ChangeAt Go.RowKit
set_option linter.unusedVariables false
set_option maxRecDepth 1000000

theorem own : ownKnob Tryz.prog.godebug = none := by kernel_rfl

theorem vars_len {H : Type} {enc : TypeId × Value → H} {P : Program} {w : World} {sp : Nat → Bool} : ∀ {ns : List String} {gs : List (DataW H)} {ps : List MemPlace}, DataW.TrodVars enc P w sp ns gs ps → gs.length = ns.length
  | [], [], _, _ => rfl
  | [], _ :: _, _, h => h.elim
  | _ :: _, [], _, h => h.elim
  | _ :: ns, _ :: gs, _, ⟨_, _, _, _, _, _, _, _, _, _, h, _⟩ => congrArg Nat.succ (vars_len h)

theorem laidOut : laidOutB Tryz.prog = true := by kernel_rfl

set_option maxHeartbeats 4000000 in
theorem walk (k0 : List UInt8) (s0 : Value) (ls0 : List Flds.Fld) (c0 : Int) (u0 : Value) (l0 : List Flds.Fld) (b0 : List UInt8) (p0 : Value) (ps0 : List Pcs.T) (n0 i0 g0 q0 : Int) (w0 : Ent.Ok k0 ls0 c0 l0 b0 ps0 n0 i0 g0 q0) (w : World) (y0 : Flds.Holds w w.heap.size s0 ls0 ∧ Flds.Holds w w.heap.size u0 l0 ∧ Pcs.Holds w w.heap.size p0 ps0) (ht : Age.Tabs w) :
    Calls Tryz.prog 3 #[.agg #[.string ⟨k0.toArray⟩, s0, .int .i64 c0, u0, .string ⟨b0.toArray⟩, p0, .int .i64 n0, .int .i64 i0, .int .i64 g0, .int .i64 q0]] w fun e w' => e = .returned (.bool true) ∧ Below w.heap.size w w' := by
  have HTB := Lib.hid ht
  clear ht
  have HW0 := Lib.hid w0
  have HYs := Lib.hid y0.1
  have HYf := Lib.hid y0.2.1
  have HYp := Lib.hid y0.2.2
  clear w0 y0
  have HB : Hid (Below w.heap.size w (w.alloc (.cells #[.string ⟨k0.toArray⟩, s0, .int .i64 c0, u0, .string ⟨b0.toArray⟩, p0, .int .i64 n0, .int .i64 i0, .int .i64 g0, .int .i64 q0] 27))) := Lib.hid ((Below.refl w.heap.size w).alloc (by simp) (.cells #[.string ⟨k0.toArray⟩, s0, .int .i64 c0, u0, .string ⟨b0.toArray⟩, p0, .int .i64 n0, .int .i64 i0, .int .i64 g0, .int .i64 q0] 27))
  have hz0' : w.heap.size < (w.alloc (.cells #[.string ⟨k0.toArray⟩, s0, .int .i64 c0, u0, .string ⟨b0.toArray⟩, p0, .int .i64 n0, .int .i64 i0, .int .i64 g0, .int .i64 q0] 27)).heap.size := by simp
  have HX0 : Hid ((w.alloc (.cells #[.string ⟨k0.toArray⟩, s0, .int .i64 c0, u0, .string ⟨b0.toArray⟩, p0, .int .i64 n0, .int .i64 i0, .int .i64 g0, .int .i64 q0] 27)).cell? ⟨w.heap.size, 0, none⟩ = some (.string ⟨k0.toArray⟩) ∧ (w.alloc (.cells #[.string ⟨k0.toArray⟩, s0, .int .i64 c0, u0, .string ⟨b0.toArray⟩, p0, .int .i64 n0, .int .i64 i0, .int .i64 g0, .int .i64 q0] 27)).cell? ⟨w.heap.size, 1, none⟩ = some (s0) ∧ (w.alloc (.cells #[.string ⟨k0.toArray⟩, s0, .int .i64 c0, u0, .string ⟨b0.toArray⟩, p0, .int .i64 n0, .int .i64 i0, .int .i64 g0, .int .i64 q0] 27)).cell? ⟨w.heap.size, 2, none⟩ = some (.int .i64 c0) ∧ (w.alloc (.cells #[.string ⟨k0.toArray⟩, s0, .int .i64 c0, u0, .string ⟨b0.toArray⟩, p0, .int .i64 n0, .int .i64 i0, .int .i64 g0, .int .i64 q0] 27)).cell? ⟨w.heap.size, 3, none⟩ = some (u0) ∧ (w.alloc (.cells #[.string ⟨k0.toArray⟩, s0, .int .i64 c0, u0, .string ⟨b0.toArray⟩, p0, .int .i64 n0, .int .i64 i0, .int .i64 g0, .int .i64 q0] 27)).cell? ⟨w.heap.size, 4, none⟩ = some (.string ⟨b0.toArray⟩) ∧ (w.alloc (.cells #[.string ⟨k0.toArray⟩, s0, .int .i64 c0, u0, .string ⟨b0.toArray⟩, p0, .int .i64 n0, .int .i64 i0, .int .i64 g0, .int .i64 q0] 27)).cell? ⟨w.heap.size, 5, none⟩ = some (p0) ∧ (w.alloc (.cells #[.string ⟨k0.toArray⟩, s0, .int .i64 c0, u0, .string ⟨b0.toArray⟩, p0, .int .i64 n0, .int .i64 i0, .int .i64 g0, .int .i64 q0] 27)).cell? ⟨w.heap.size, 6, none⟩ = some (.int .i64 n0) ∧ (w.alloc (.cells #[.string ⟨k0.toArray⟩, s0, .int .i64 c0, u0, .string ⟨b0.toArray⟩, p0, .int .i64 n0, .int .i64 i0, .int .i64 g0, .int .i64 q0] 27)).cell? ⟨w.heap.size, 7, none⟩ = some (.int .i64 i0) ∧ (w.alloc (.cells #[.string ⟨k0.toArray⟩, s0, .int .i64 c0, u0, .string ⟨b0.toArray⟩, p0, .int .i64 n0, .int .i64 i0, .int .i64 g0, .int .i64 q0] 27)).cell? ⟨w.heap.size, 8, none⟩ = some (.int .i64 g0) ∧ (w.alloc (.cells #[.string ⟨k0.toArray⟩, s0, .int .i64 c0, u0, .string ⟨b0.toArray⟩, p0, .int .i64 n0, .int .i64 i0, .int .i64 g0, .int .i64 q0] 27)).cell? ⟨w.heap.size, 9, none⟩ = some (.int .i64 q0)) := Lib.hid ⟨by rw [World.cell?_alloc_new]; rfl, by rw [World.cell?_alloc_new]; rfl, by rw [World.cell?_alloc_new]; rfl, by rw [World.cell?_alloc_new]; rfl, by rw [World.cell?_alloc_new]; rfl, by rw [World.cell?_alloc_new]; rfl, by rw [World.cell?_alloc_new]; rfl, by rw [World.cell?_alloc_new]; rfl, by rw [World.cell?_alloc_new]; rfl, by rw [World.cell?_alloc_new]; rfl⟩
  have HYs := Lib.hid (Flds.holds_below HYs.out (HB.out.mono (Nat.le_refl _)))
  have HYf := Lib.hid (Flds.holds_below HYf.out (HB.out.mono (Nat.le_refl _)))
  have HYp := Lib.hid (Pcs.holds_below HYp.out (HB.out.mono (Nat.le_refl _)))
  have hszw := HB.out.size
  go_enter Tryz.func3, Tryz.ntmps3
  have HX0o := HX0.out
  obtain ⟨hx0_0, hx0_1, hx0_2, hx0_3, hx0_4, hx0_5, hx0_6, hx0_7, hx0_8, hx0_9⟩ := HX0o
  go_wp2_with (fail)
  go_at_call 4
  refine (Ent.size_ent k0 s0 ls0 c0 u0 l0 b0 p0 ps0 n0 i0 g0 q0 _ w.heap.size _ HYs.out HYf.out HYp.out (by omega) HW0.out (by decide) (by decide)).mono ?_
  rintro e x1 ⟨z_0, rfl, hz0, b1⟩
  have hs1 := b1.size
  clear hx0_0 hx0_1 hx0_2 hx0_3 hx0_4 hx0_5 hx0_6 hx0_7 hx0_8 hx0_9
  have HYs := Lib.hid (Flds.holds_below HYs.out (b1.mono (by omega)))
  have HYf := Lib.hid (Flds.holds_below HYf.out (b1.mono (by omega)))
  have HYp := Lib.hid (Pcs.holds_below HYp.out (b1.mono (by omega)))
  have HX0 := Lib.hid (And.intro ((b1.cell (p := ⟨w.heap.size, 0, none⟩) (Rec.lt_of_cell (HX0.out.1))).trans (HX0.out.1)) (And.intro ((b1.cell (p := ⟨w.heap.size, 1, none⟩) (Rec.lt_of_cell (HX0.out.2.1))).trans (HX0.out.2.1)) (And.intro ((b1.cell (p := ⟨w.heap.size, 2, none⟩) (Rec.lt_of_cell (HX0.out.2.2.1))).trans (HX0.out.2.2.1)) (And.intro ((b1.cell (p := ⟨w.heap.size, 3, none⟩) (Rec.lt_of_cell (HX0.out.2.2.2.1))).trans (HX0.out.2.2.2.1)) (And.intro ((b1.cell (p := ⟨w.heap.size, 4, none⟩) (Rec.lt_of_cell (HX0.out.2.2.2.2.1))).trans (HX0.out.2.2.2.2.1)) (And.intro ((b1.cell (p := ⟨w.heap.size, 5, none⟩) (Rec.lt_of_cell (HX0.out.2.2.2.2.2.1))).trans (HX0.out.2.2.2.2.2.1)) (And.intro ((b1.cell (p := ⟨w.heap.size, 6, none⟩) (Rec.lt_of_cell (HX0.out.2.2.2.2.2.2.1))).trans (HX0.out.2.2.2.2.2.2.1)) (And.intro ((b1.cell (p := ⟨w.heap.size, 7, none⟩) (Rec.lt_of_cell (HX0.out.2.2.2.2.2.2.2.1))).trans (HX0.out.2.2.2.2.2.2.2.1)) (And.intro ((b1.cell (p := ⟨w.heap.size, 8, none⟩) (Rec.lt_of_cell (HX0.out.2.2.2.2.2.2.2.2.1))).trans (HX0.out.2.2.2.2.2.2.2.2.1)) ((b1.cell (p := ⟨w.heap.size, 9, none⟩) (Rec.lt_of_cell (HX0.out.2.2.2.2.2.2.2.2.2))).trans (HX0.out.2.2.2.2.2.2.2.2.2)))))))))))
  have HB := Lib.hid (Base.then_below HB.out b1)
  clear b1
  rcases hz0 with hz0 | ⟨hz0, ht0⟩
  · go_wp2
    go_ret
    exact ⟨rfl, HB.out⟩
  have hzn0 : ¬ z_0 < 0 := by omega
  have HZ0 : Hid (z_0 + ((Ent.tot k0 ls0 l0 b0 ps0 : Nat) : Int) = 1048576) := Lib.hid (by omega)
  clear ht0
  have HLs : Hid (ls0.length ≤ 1048576) := Lib.hid (by have := HZ0.out; unfold Ent.tot Flds.total at this; omega)
  have HLf : Hid (l0.length ≤ 1048576) := Lib.hid (by have := HZ0.out; unfold Ent.tot Flds.total at this; omega)
  have HLp : Hid (ps0.length ≤ 1048576) := Lib.hid (Nat.le_trans (Pcs.len_le_total ps0) (by have := HZ0.out; unfold Ent.tot at this; omega))
  have HTk : Hid (k0.length ≤ 1048576) := Lib.hid (by have := HZ0.out; unfold Ent.tot at this; omega)
  have HTs : Hid (Flds.total ls0 ≤ 1048576) := Lib.hid (by have := HZ0.out; unfold Ent.tot at this; omega)
  have HTf : Hid (Flds.total l0 ≤ 1048576) := Lib.hid (by have := HZ0.out; unfold Ent.tot at this; omega)
  have HTb : Hid (b0.length ≤ 1048576) := Lib.hid (by have := HZ0.out; unfold Ent.tot at this; omega)
  have HTp : Hid (Pcs.total ps0 ≤ 1048576) := Lib.hid (by have := HZ0.out; unfold Ent.tot at this; omega)
  obtain ⟨r0, hr0⟩ : ∃ z, z = Ent.entOk k0 ls0 c0 l0 b0 ps0 n0 i0 g0 q0 := ⟨_, rfl⟩
  have HGr0 := Lib.hid hr0
  clear hr0
  have HX0o := HX0.out
  obtain ⟨hx0_0, hx0_1, hx0_2, hx0_3, hx0_4, hx0_5, hx0_6, hx0_7, hx0_8, hx0_9⟩ := HX0o
  go_wp2_with (fail)
  go_at_call 6
  refine (Ent.copy_ent k0 s0 ls0 c0 u0 l0 b0 p0 ps0 n0 i0 g0 q0 w.heap.size _ HYs.out HYf.out HYp.out (by have h9 := HB.out.size; omega) HLs.out HLf.out HLp.out).mono ?_
  rintro e x2 ⟨vAs, vAf, vAp, rfl, oAs, oAf, oAp, b2⟩
  have hs2 := b2.size
  obtain ⟨aAs, cAs, rfl, _⟩ := Rec.shape_at oAs
  obtain ⟨aAf, cAf, rfl, _⟩ := Rec.shape_at oAf
  obtain ⟨aAp, cAp, rfl, _⟩ := Rec.shape_at oAp
  clear hx0_0 hx0_1 hx0_2 hx0_3 hx0_4 hx0_5 hx0_6 hx0_7 hx0_8 hx0_9
  have HYs := Lib.hid (Flds.holds_below HYs.out (b2.mono (by omega)))
  have HYf := Lib.hid (Flds.holds_below HYf.out (b2.mono (by omega)))
  have HYp := Lib.hid (Pcs.holds_below HYp.out (b2.mono (by omega)))
  have HX0 := Lib.hid (And.intro ((b2.cell (p := ⟨w.heap.size, 0, none⟩) (Rec.lt_of_cell (HX0.out.1))).trans (HX0.out.1)) (And.intro ((b2.cell (p := ⟨w.heap.size, 1, none⟩) (Rec.lt_of_cell (HX0.out.2.1))).trans (HX0.out.2.1)) (And.intro ((b2.cell (p := ⟨w.heap.size, 2, none⟩) (Rec.lt_of_cell (HX0.out.2.2.1))).trans (HX0.out.2.2.1)) (And.intro ((b2.cell (p := ⟨w.heap.size, 3, none⟩) (Rec.lt_of_cell (HX0.out.2.2.2.1))).trans (HX0.out.2.2.2.1)) (And.intro ((b2.cell (p := ⟨w.heap.size, 4, none⟩) (Rec.lt_of_cell (HX0.out.2.2.2.2.1))).trans (HX0.out.2.2.2.2.1)) (And.intro ((b2.cell (p := ⟨w.heap.size, 5, none⟩) (Rec.lt_of_cell (HX0.out.2.2.2.2.2.1))).trans (HX0.out.2.2.2.2.2.1)) (And.intro ((b2.cell (p := ⟨w.heap.size, 6, none⟩) (Rec.lt_of_cell (HX0.out.2.2.2.2.2.2.1))).trans (HX0.out.2.2.2.2.2.2.1)) (And.intro ((b2.cell (p := ⟨w.heap.size, 7, none⟩) (Rec.lt_of_cell (HX0.out.2.2.2.2.2.2.2.1))).trans (HX0.out.2.2.2.2.2.2.2.1)) (And.intro ((b2.cell (p := ⟨w.heap.size, 8, none⟩) (Rec.lt_of_cell (HX0.out.2.2.2.2.2.2.2.2.1))).trans (HX0.out.2.2.2.2.2.2.2.2.1)) ((b2.cell (p := ⟨w.heap.size, 9, none⟩) (Rec.lt_of_cell (HX0.out.2.2.2.2.2.2.2.2.2))).trans (HX0.out.2.2.2.2.2.2.2.2.2)))))))))))
  have HB := Lib.hid (Base.then_below HB.out b2)
  clear b2
  have HAs := Lib.hid (Flds.own_holds oAs)
  have HAf := Lib.hid (Flds.own_holds oAf)
  have HAp := Lib.hid (Pcs.own_holds oAp)
  clear oAs oAf oAp
  go_wp2_with (fail)
  go_at_call 5
  refine (Ent.spec_ent k0 (.slice aAs (ls0.length) cAs) ls0 c0 (.slice aAf (l0.length) cAf) l0 b0 (.slice aAp (ps0.length) cAp) ps0 n0 i0 g0 q0 _ _ HAs.out HAf.out HAp.out (by have h9 := HB.out.size; omega) HTs.out HTf.out HTb.out HTp.out HTk.out).mono ?_
  rintro e x3 ⟨he, b3⟩
  rw [← HGr0.out] at he
  subst he
  have hs3 := b3.size
  have HYs := Lib.hid (Flds.holds_below HYs.out (b3.mono (by omega)))
  have HYf := Lib.hid (Flds.holds_below HYf.out (b3.mono (by omega)))
  have HYp := Lib.hid (Pcs.holds_below HYp.out (b3.mono (by omega)))
  have HX0 := Lib.hid (And.intro ((b3.cell (p := ⟨w.heap.size, 0, none⟩) (Rec.lt_of_cell (HX0.out.1))).trans (HX0.out.1)) (And.intro ((b3.cell (p := ⟨w.heap.size, 1, none⟩) (Rec.lt_of_cell (HX0.out.2.1))).trans (HX0.out.2.1)) (And.intro ((b3.cell (p := ⟨w.heap.size, 2, none⟩) (Rec.lt_of_cell (HX0.out.2.2.1))).trans (HX0.out.2.2.1)) (And.intro ((b3.cell (p := ⟨w.heap.size, 3, none⟩) (Rec.lt_of_cell (HX0.out.2.2.2.1))).trans (HX0.out.2.2.2.1)) (And.intro ((b3.cell (p := ⟨w.heap.size, 4, none⟩) (Rec.lt_of_cell (HX0.out.2.2.2.2.1))).trans (HX0.out.2.2.2.2.1)) (And.intro ((b3.cell (p := ⟨w.heap.size, 5, none⟩) (Rec.lt_of_cell (HX0.out.2.2.2.2.2.1))).trans (HX0.out.2.2.2.2.2.1)) (And.intro ((b3.cell (p := ⟨w.heap.size, 6, none⟩) (Rec.lt_of_cell (HX0.out.2.2.2.2.2.2.1))).trans (HX0.out.2.2.2.2.2.2.1)) (And.intro ((b3.cell (p := ⟨w.heap.size, 7, none⟩) (Rec.lt_of_cell (HX0.out.2.2.2.2.2.2.2.1))).trans (HX0.out.2.2.2.2.2.2.2.1)) (And.intro ((b3.cell (p := ⟨w.heap.size, 8, none⟩) (Rec.lt_of_cell (HX0.out.2.2.2.2.2.2.2.2.1))).trans (HX0.out.2.2.2.2.2.2.2.2.1)) ((b3.cell (p := ⟨w.heap.size, 9, none⟩) (Rec.lt_of_cell (HX0.out.2.2.2.2.2.2.2.2.2))).trans (HX0.out.2.2.2.2.2.2.2.2.2)))))))))))
  have HB := Lib.hid (Base.then_below HB.out b3)
  clear b3
  have HX0o := HX0.out
  obtain ⟨hx0_0, hx0_1, hx0_2, hx0_3, hx0_4, hx0_5, hx0_6, hx0_7, hx0_8, hx0_9⟩ := HX0o
  go_wp2_with (fail)
  go_at_call 6
  refine (Ent.copy_ent k0 s0 ls0 c0 u0 l0 b0 p0 ps0 n0 i0 g0 q0 w.heap.size _ HYs.out HYf.out HYp.out (by have h9 := HB.out.size; omega) HLs.out HLf.out HLp.out).mono ?_
  rintro e x4 ⟨vXs, vXf, vXp, rfl, oXs, oXf, oXp, b4⟩
  have hs4 := b4.size
  obtain ⟨aXs, cXs, rfl, _⟩ := Rec.shape_at oXs
  obtain ⟨aXf, cXf, rfl, _⟩ := Rec.shape_at oXf
  obtain ⟨aXp, cXp, rfl, _⟩ := Rec.shape_at oXp
  clear hx0_0 hx0_1 hx0_2 hx0_3 hx0_4 hx0_5 hx0_6 hx0_7 hx0_8 hx0_9
  have HYs := Lib.hid (Flds.holds_below HYs.out (b4.mono (by omega)))
  have HYf := Lib.hid (Flds.holds_below HYf.out (b4.mono (by omega)))
  have HYp := Lib.hid (Pcs.holds_below HYp.out (b4.mono (by omega)))
  have HX0 := Lib.hid (And.intro ((b4.cell (p := ⟨w.heap.size, 0, none⟩) (Rec.lt_of_cell (HX0.out.1))).trans (HX0.out.1)) (And.intro ((b4.cell (p := ⟨w.heap.size, 1, none⟩) (Rec.lt_of_cell (HX0.out.2.1))).trans (HX0.out.2.1)) (And.intro ((b4.cell (p := ⟨w.heap.size, 2, none⟩) (Rec.lt_of_cell (HX0.out.2.2.1))).trans (HX0.out.2.2.1)) (And.intro ((b4.cell (p := ⟨w.heap.size, 3, none⟩) (Rec.lt_of_cell (HX0.out.2.2.2.1))).trans (HX0.out.2.2.2.1)) (And.intro ((b4.cell (p := ⟨w.heap.size, 4, none⟩) (Rec.lt_of_cell (HX0.out.2.2.2.2.1))).trans (HX0.out.2.2.2.2.1)) (And.intro ((b4.cell (p := ⟨w.heap.size, 5, none⟩) (Rec.lt_of_cell (HX0.out.2.2.2.2.2.1))).trans (HX0.out.2.2.2.2.2.1)) (And.intro ((b4.cell (p := ⟨w.heap.size, 6, none⟩) (Rec.lt_of_cell (HX0.out.2.2.2.2.2.2.1))).trans (HX0.out.2.2.2.2.2.2.1)) (And.intro ((b4.cell (p := ⟨w.heap.size, 7, none⟩) (Rec.lt_of_cell (HX0.out.2.2.2.2.2.2.2.1))).trans (HX0.out.2.2.2.2.2.2.2.1)) (And.intro ((b4.cell (p := ⟨w.heap.size, 8, none⟩) (Rec.lt_of_cell (HX0.out.2.2.2.2.2.2.2.2.1))).trans (HX0.out.2.2.2.2.2.2.2.2.1)) ((b4.cell (p := ⟨w.heap.size, 9, none⟩) (Rec.lt_of_cell (HX0.out.2.2.2.2.2.2.2.2.2))).trans (HX0.out.2.2.2.2.2.2.2.2.2)))))))))))
  have HB := Lib.hid (Base.then_below HB.out b4)
  clear b4
  have HXs := Lib.hid (Flds.own_holds oXs)
  have HXf := Lib.hid (Flds.own_holds oXf)
  have HXp := Lib.hid (Pcs.own_holds oXp)
  clear oXs oXf oXp
  have hsa5 : (x4.alloc (.cells #[.string ⟨k0.toArray⟩, (.slice aXs (ls0.length) cXs), .int .i64 c0, (.slice aXf (l0.length) cXf), .string ⟨b0.toArray⟩, (.slice aXp (ps0.length) cXp), .int .i64 n0, .int .i64 i0, .int .i64 g0, .int .i64 q0] 35)).heap.size = x4.heap.size + 1 := by simp
  have HYs := Lib.hid (Flds.holds_below HYs.out (((Below.refl x4.heap.size x4).alloc (Nat.le_refl _) (.cells #[.string ⟨k0.toArray⟩, (.slice aXs (ls0.length) cXs), .int .i64 c0, (.slice aXf (l0.length) cXf), .string ⟨b0.toArray⟩, (.slice aXp (ps0.length) cXp), .int .i64 n0, .int .i64 i0, .int .i64 g0, .int .i64 q0] 35)).mono (by omega)))
  have HYf := Lib.hid (Flds.holds_below HYf.out (((Below.refl x4.heap.size x4).alloc (Nat.le_refl _) (.cells #[.string ⟨k0.toArray⟩, (.slice aXs (ls0.length) cXs), .int .i64 c0, (.slice aXf (l0.length) cXf), .string ⟨b0.toArray⟩, (.slice aXp (ps0.length) cXp), .int .i64 n0, .int .i64 i0, .int .i64 g0, .int .i64 q0] 35)).mono (by omega)))
  have HYp := Lib.hid (Pcs.holds_below HYp.out (((Below.refl x4.heap.size x4).alloc (Nat.le_refl _) (.cells #[.string ⟨k0.toArray⟩, (.slice aXs (ls0.length) cXs), .int .i64 c0, (.slice aXf (l0.length) cXf), .string ⟨b0.toArray⟩, (.slice aXp (ps0.length) cXp), .int .i64 n0, .int .i64 i0, .int .i64 g0, .int .i64 q0] 35)).mono (by omega)))
  have HX0 := Lib.hid (And.intro ((((Below.refl x4.heap.size x4).alloc (Nat.le_refl _) (.cells #[.string ⟨k0.toArray⟩, (.slice aXs (ls0.length) cXs), .int .i64 c0, (.slice aXf (l0.length) cXf), .string ⟨b0.toArray⟩, (.slice aXp (ps0.length) cXp), .int .i64 n0, .int .i64 i0, .int .i64 g0, .int .i64 q0] 35)).cell (p := ⟨w.heap.size, 0, none⟩) (Rec.lt_of_cell (HX0.out.1))).trans (HX0.out.1)) (And.intro ((((Below.refl x4.heap.size x4).alloc (Nat.le_refl _) (.cells #[.string ⟨k0.toArray⟩, (.slice aXs (ls0.length) cXs), .int .i64 c0, (.slice aXf (l0.length) cXf), .string ⟨b0.toArray⟩, (.slice aXp (ps0.length) cXp), .int .i64 n0, .int .i64 i0, .int .i64 g0, .int .i64 q0] 35)).cell (p := ⟨w.heap.size, 1, none⟩) (Rec.lt_of_cell (HX0.out.2.1))).trans (HX0.out.2.1)) (And.intro ((((Below.refl x4.heap.size x4).alloc (Nat.le_refl _) (.cells #[.string ⟨k0.toArray⟩, (.slice aXs (ls0.length) cXs), .int .i64 c0, (.slice aXf (l0.length) cXf), .string ⟨b0.toArray⟩, (.slice aXp (ps0.length) cXp), .int .i64 n0, .int .i64 i0, .int .i64 g0, .int .i64 q0] 35)).cell (p := ⟨w.heap.size, 2, none⟩) (Rec.lt_of_cell (HX0.out.2.2.1))).trans (HX0.out.2.2.1)) (And.intro ((((Below.refl x4.heap.size x4).alloc (Nat.le_refl _) (.cells #[.string ⟨k0.toArray⟩, (.slice aXs (ls0.length) cXs), .int .i64 c0, (.slice aXf (l0.length) cXf), .string ⟨b0.toArray⟩, (.slice aXp (ps0.length) cXp), .int .i64 n0, .int .i64 i0, .int .i64 g0, .int .i64 q0] 35)).cell (p := ⟨w.heap.size, 3, none⟩) (Rec.lt_of_cell (HX0.out.2.2.2.1))).trans (HX0.out.2.2.2.1)) (And.intro ((((Below.refl x4.heap.size x4).alloc (Nat.le_refl _) (.cells #[.string ⟨k0.toArray⟩, (.slice aXs (ls0.length) cXs), .int .i64 c0, (.slice aXf (l0.length) cXf), .string ⟨b0.toArray⟩, (.slice aXp (ps0.length) cXp), .int .i64 n0, .int .i64 i0, .int .i64 g0, .int .i64 q0] 35)).cell (p := ⟨w.heap.size, 4, none⟩) (Rec.lt_of_cell (HX0.out.2.2.2.2.1))).trans (HX0.out.2.2.2.2.1)) (And.intro ((((Below.refl x4.heap.size x4).alloc (Nat.le_refl _) (.cells #[.string ⟨k0.toArray⟩, (.slice aXs (ls0.length) cXs), .int .i64 c0, (.slice aXf (l0.length) cXf), .string ⟨b0.toArray⟩, (.slice aXp (ps0.length) cXp), .int .i64 n0, .int .i64 i0, .int .i64 g0, .int .i64 q0] 35)).cell (p := ⟨w.heap.size, 5, none⟩) (Rec.lt_of_cell (HX0.out.2.2.2.2.2.1))).trans (HX0.out.2.2.2.2.2.1)) (And.intro ((((Below.refl x4.heap.size x4).alloc (Nat.le_refl _) (.cells #[.string ⟨k0.toArray⟩, (.slice aXs (ls0.length) cXs), .int .i64 c0, (.slice aXf (l0.length) cXf), .string ⟨b0.toArray⟩, (.slice aXp (ps0.length) cXp), .int .i64 n0, .int .i64 i0, .int .i64 g0, .int .i64 q0] 35)).cell (p := ⟨w.heap.size, 6, none⟩) (Rec.lt_of_cell (HX0.out.2.2.2.2.2.2.1))).trans (HX0.out.2.2.2.2.2.2.1)) (And.intro ((((Below.refl x4.heap.size x4).alloc (Nat.le_refl _) (.cells #[.string ⟨k0.toArray⟩, (.slice aXs (ls0.length) cXs), .int .i64 c0, (.slice aXf (l0.length) cXf), .string ⟨b0.toArray⟩, (.slice aXp (ps0.length) cXp), .int .i64 n0, .int .i64 i0, .int .i64 g0, .int .i64 q0] 35)).cell (p := ⟨w.heap.size, 7, none⟩) (Rec.lt_of_cell (HX0.out.2.2.2.2.2.2.2.1))).trans (HX0.out.2.2.2.2.2.2.2.1)) (And.intro ((((Below.refl x4.heap.size x4).alloc (Nat.le_refl _) (.cells #[.string ⟨k0.toArray⟩, (.slice aXs (ls0.length) cXs), .int .i64 c0, (.slice aXf (l0.length) cXf), .string ⟨b0.toArray⟩, (.slice aXp (ps0.length) cXp), .int .i64 n0, .int .i64 i0, .int .i64 g0, .int .i64 q0] 35)).cell (p := ⟨w.heap.size, 8, none⟩) (Rec.lt_of_cell (HX0.out.2.2.2.2.2.2.2.2.1))).trans (HX0.out.2.2.2.2.2.2.2.2.1)) ((((Below.refl x4.heap.size x4).alloc (Nat.le_refl _) (.cells #[.string ⟨k0.toArray⟩, (.slice aXs (ls0.length) cXs), .int .i64 c0, (.slice aXf (l0.length) cXf), .string ⟨b0.toArray⟩, (.slice aXp (ps0.length) cXp), .int .i64 n0, .int .i64 i0, .int .i64 g0, .int .i64 q0] 35)).cell (p := ⟨w.heap.size, 9, none⟩) (Rec.lt_of_cell (HX0.out.2.2.2.2.2.2.2.2.2))).trans (HX0.out.2.2.2.2.2.2.2.2.2)))))))))))
  have HXs := Lib.hid (Flds.holds_below HXs.out (((Below.refl x4.heap.size x4).alloc (Nat.le_refl _) (.cells #[.string ⟨k0.toArray⟩, (.slice aXs (ls0.length) cXs), .int .i64 c0, (.slice aXf (l0.length) cXf), .string ⟨b0.toArray⟩, (.slice aXp (ps0.length) cXp), .int .i64 n0, .int .i64 i0, .int .i64 g0, .int .i64 q0] 35)).mono (by omega)))
  have HXf := Lib.hid (Flds.holds_below HXf.out (((Below.refl x4.heap.size x4).alloc (Nat.le_refl _) (.cells #[.string ⟨k0.toArray⟩, (.slice aXs (ls0.length) cXs), .int .i64 c0, (.slice aXf (l0.length) cXf), .string ⟨b0.toArray⟩, (.slice aXp (ps0.length) cXp), .int .i64 n0, .int .i64 i0, .int .i64 g0, .int .i64 q0] 35)).mono (by omega)))
  have HXp := Lib.hid (Pcs.holds_below HXp.out (((Below.refl x4.heap.size x4).alloc (Nat.le_refl _) (.cells #[.string ⟨k0.toArray⟩, (.slice aXs (ls0.length) cXs), .int .i64 c0, (.slice aXf (l0.length) cXf), .string ⟨b0.toArray⟩, (.slice aXp (ps0.length) cXp), .int .i64 n0, .int .i64 i0, .int .i64 g0, .int .i64 q0] 35)).mono (by omega)))
  have HB := Lib.hid (HB.out.alloc HB.out.size (.cells #[.string ⟨k0.toArray⟩, (.slice aXs (ls0.length) cXs), .int .i64 c0, (.slice aXf (l0.length) cXf), .string ⟨b0.toArray⟩, (.slice aXp (ps0.length) cXp), .int .i64 n0, .int .i64 i0, .int .i64 g0, .int .i64 q0] 35))
  have HZX : Hid ((x4.alloc (.cells #[.string ⟨k0.toArray⟩, (.slice aXs (ls0.length) cXs), .int .i64 c0, (.slice aXf (l0.length) cXf), .string ⟨b0.toArray⟩, (.slice aXp (ps0.length) cXp), .int .i64 n0, .int .i64 i0, .int .i64 g0, .int .i64 q0] 35)).cell? ⟨x4.heap.size, 0, none⟩ = some (.string ⟨k0.toArray⟩) ∧ (x4.alloc (.cells #[.string ⟨k0.toArray⟩, (.slice aXs (ls0.length) cXs), .int .i64 c0, (.slice aXf (l0.length) cXf), .string ⟨b0.toArray⟩, (.slice aXp (ps0.length) cXp), .int .i64 n0, .int .i64 i0, .int .i64 g0, .int .i64 q0] 35)).cell? ⟨x4.heap.size, 1, none⟩ = some ((.slice aXs (ls0.length) cXs)) ∧ (x4.alloc (.cells #[.string ⟨k0.toArray⟩, (.slice aXs (ls0.length) cXs), .int .i64 c0, (.slice aXf (l0.length) cXf), .string ⟨b0.toArray⟩, (.slice aXp (ps0.length) cXp), .int .i64 n0, .int .i64 i0, .int .i64 g0, .int .i64 q0] 35)).cell? ⟨x4.heap.size, 2, none⟩ = some (.int .i64 c0) ∧ (x4.alloc (.cells #[.string ⟨k0.toArray⟩, (.slice aXs (ls0.length) cXs), .int .i64 c0, (.slice aXf (l0.length) cXf), .string ⟨b0.toArray⟩, (.slice aXp (ps0.length) cXp), .int .i64 n0, .int .i64 i0, .int .i64 g0, .int .i64 q0] 35)).cell? ⟨x4.heap.size, 3, none⟩ = some ((.slice aXf (l0.length) cXf)) ∧ (x4.alloc (.cells #[.string ⟨k0.toArray⟩, (.slice aXs (ls0.length) cXs), .int .i64 c0, (.slice aXf (l0.length) cXf), .string ⟨b0.toArray⟩, (.slice aXp (ps0.length) cXp), .int .i64 n0, .int .i64 i0, .int .i64 g0, .int .i64 q0] 35)).cell? ⟨x4.heap.size, 4, none⟩ = some (.string ⟨b0.toArray⟩) ∧ (x4.alloc (.cells #[.string ⟨k0.toArray⟩, (.slice aXs (ls0.length) cXs), .int .i64 c0, (.slice aXf (l0.length) cXf), .string ⟨b0.toArray⟩, (.slice aXp (ps0.length) cXp), .int .i64 n0, .int .i64 i0, .int .i64 g0, .int .i64 q0] 35)).cell? ⟨x4.heap.size, 5, none⟩ = some ((.slice aXp (ps0.length) cXp)) ∧ (x4.alloc (.cells #[.string ⟨k0.toArray⟩, (.slice aXs (ls0.length) cXs), .int .i64 c0, (.slice aXf (l0.length) cXf), .string ⟨b0.toArray⟩, (.slice aXp (ps0.length) cXp), .int .i64 n0, .int .i64 i0, .int .i64 g0, .int .i64 q0] 35)).cell? ⟨x4.heap.size, 6, none⟩ = some (.int .i64 n0) ∧ (x4.alloc (.cells #[.string ⟨k0.toArray⟩, (.slice aXs (ls0.length) cXs), .int .i64 c0, (.slice aXf (l0.length) cXf), .string ⟨b0.toArray⟩, (.slice aXp (ps0.length) cXp), .int .i64 n0, .int .i64 i0, .int .i64 g0, .int .i64 q0] 35)).cell? ⟨x4.heap.size, 7, none⟩ = some (.int .i64 i0) ∧ (x4.alloc (.cells #[.string ⟨k0.toArray⟩, (.slice aXs (ls0.length) cXs), .int .i64 c0, (.slice aXf (l0.length) cXf), .string ⟨b0.toArray⟩, (.slice aXp (ps0.length) cXp), .int .i64 n0, .int .i64 i0, .int .i64 g0, .int .i64 q0] 35)).cell? ⟨x4.heap.size, 8, none⟩ = some (.int .i64 g0) ∧ (x4.alloc (.cells #[.string ⟨k0.toArray⟩, (.slice aXs (ls0.length) cXs), .int .i64 c0, (.slice aXf (l0.length) cXf), .string ⟨b0.toArray⟩, (.slice aXp (ps0.length) cXp), .int .i64 n0, .int .i64 i0, .int .i64 g0, .int .i64 q0] 35)).cell? ⟨x4.heap.size, 9, none⟩ = some (.int .i64 q0)) := Lib.hid ⟨by rw [World.cell?_alloc_new]; rfl, by rw [World.cell?_alloc_new]; rfl, by rw [World.cell?_alloc_new]; rfl, by rw [World.cell?_alloc_new]; rfl, by rw [World.cell?_alloc_new]; rfl, by rw [World.cell?_alloc_new]; rfl, by rw [World.cell?_alloc_new]; rfl, by rw [World.cell?_alloc_new]; rfl, by rw [World.cell?_alloc_new]; rfl, by rw [World.cell?_alloc_new]; rfl⟩
  have HZXo := HZX.out
  obtain ⟨hzx_0, hzx_1, hzx_2, hzx_3, hzx_4, hzx_5, hzx_6, hzx_7, hzx_8, hzx_9⟩ := HZXo
  go_wp2_with (fail)
  go_at_call 7
  refine (Ent.impl_ent k0 (.slice aXs (ls0.length) cXs) ls0 c0 (.slice aXf (l0.length) cXf) l0 b0 (.slice aXp (ps0.length) cXp) ps0 n0 i0 g0 q0 _ _ HXs.out HXf.out HXp.out (by have h9 := HB.out.size; omega) HTs.out HTf.out HTb.out HTp.out HTk.out (Age.tabs_below HTB.out HB.out)).mono ?_
  rintro e x6 ⟨he, b6⟩
  rw [← HGr0.out] at he
  subst he
  have hs6 := b6.size
  clear hzx_0 hzx_1 hzx_2 hzx_3 hzx_4 hzx_5 hzx_6 hzx_7 hzx_8 hzx_9
  have HYs := Lib.hid (Flds.holds_below HYs.out (b6.mono (by omega)))
  have HYf := Lib.hid (Flds.holds_below HYf.out (b6.mono (by omega)))
  have HYp := Lib.hid (Pcs.holds_below HYp.out (b6.mono (by omega)))
  have HX0 := Lib.hid (And.intro ((b6.cell (p := ⟨w.heap.size, 0, none⟩) (Rec.lt_of_cell (HX0.out.1))).trans (HX0.out.1)) (And.intro ((b6.cell (p := ⟨w.heap.size, 1, none⟩) (Rec.lt_of_cell (HX0.out.2.1))).trans (HX0.out.2.1)) (And.intro ((b6.cell (p := ⟨w.heap.size, 2, none⟩) (Rec.lt_of_cell (HX0.out.2.2.1))).trans (HX0.out.2.2.1)) (And.intro ((b6.cell (p := ⟨w.heap.size, 3, none⟩) (Rec.lt_of_cell (HX0.out.2.2.2.1))).trans (HX0.out.2.2.2.1)) (And.intro ((b6.cell (p := ⟨w.heap.size, 4, none⟩) (Rec.lt_of_cell (HX0.out.2.2.2.2.1))).trans (HX0.out.2.2.2.2.1)) (And.intro ((b6.cell (p := ⟨w.heap.size, 5, none⟩) (Rec.lt_of_cell (HX0.out.2.2.2.2.2.1))).trans (HX0.out.2.2.2.2.2.1)) (And.intro ((b6.cell (p := ⟨w.heap.size, 6, none⟩) (Rec.lt_of_cell (HX0.out.2.2.2.2.2.2.1))).trans (HX0.out.2.2.2.2.2.2.1)) (And.intro ((b6.cell (p := ⟨w.heap.size, 7, none⟩) (Rec.lt_of_cell (HX0.out.2.2.2.2.2.2.2.1))).trans (HX0.out.2.2.2.2.2.2.2.1)) (And.intro ((b6.cell (p := ⟨w.heap.size, 8, none⟩) (Rec.lt_of_cell (HX0.out.2.2.2.2.2.2.2.2.1))).trans (HX0.out.2.2.2.2.2.2.2.2.1)) ((b6.cell (p := ⟨w.heap.size, 9, none⟩) (Rec.lt_of_cell (HX0.out.2.2.2.2.2.2.2.2.2))).trans (HX0.out.2.2.2.2.2.2.2.2.2)))))))))))
  have HXs := Lib.hid (Flds.holds_below HXs.out (b6.mono (by omega)))
  have HXf := Lib.hid (Flds.holds_below HXf.out (b6.mono (by omega)))
  have HXp := Lib.hid (Pcs.holds_below HXp.out (b6.mono (by omega)))
  have HZX := Lib.hid (And.intro ((b6.cell (p := ⟨x4.heap.size, 0, none⟩) (Rec.lt_of_cell (HZX.out.1))).trans (HZX.out.1)) (And.intro ((b6.cell (p := ⟨x4.heap.size, 1, none⟩) (Rec.lt_of_cell (HZX.out.2.1))).trans (HZX.out.2.1)) (And.intro ((b6.cell (p := ⟨x4.heap.size, 2, none⟩) (Rec.lt_of_cell (HZX.out.2.2.1))).trans (HZX.out.2.2.1)) (And.intro ((b6.cell (p := ⟨x4.heap.size, 3, none⟩) (Rec.lt_of_cell (HZX.out.2.2.2.1))).trans (HZX.out.2.2.2.1)) (And.intro ((b6.cell (p := ⟨x4.heap.size, 4, none⟩) (Rec.lt_of_cell (HZX.out.2.2.2.2.1))).trans (HZX.out.2.2.2.2.1)) (And.intro ((b6.cell (p := ⟨x4.heap.size, 5, none⟩) (Rec.lt_of_cell (HZX.out.2.2.2.2.2.1))).trans (HZX.out.2.2.2.2.2.1)) (And.intro ((b6.cell (p := ⟨x4.heap.size, 6, none⟩) (Rec.lt_of_cell (HZX.out.2.2.2.2.2.2.1))).trans (HZX.out.2.2.2.2.2.2.1)) (And.intro ((b6.cell (p := ⟨x4.heap.size, 7, none⟩) (Rec.lt_of_cell (HZX.out.2.2.2.2.2.2.2.1))).trans (HZX.out.2.2.2.2.2.2.2.1)) (And.intro ((b6.cell (p := ⟨x4.heap.size, 8, none⟩) (Rec.lt_of_cell (HZX.out.2.2.2.2.2.2.2.2.1))).trans (HZX.out.2.2.2.2.2.2.2.2.1)) ((b6.cell (p := ⟨x4.heap.size, 9, none⟩) (Rec.lt_of_cell (HZX.out.2.2.2.2.2.2.2.2.2))).trans (HZX.out.2.2.2.2.2.2.2.2.2)))))))))))
  have HB := Lib.hid (Base.then_below HB.out b6)
  clear b6
  have HX0 : Hid (x6.drew.cell? ⟨w.heap.size, 0, none⟩ = some (.string ⟨k0.toArray⟩) ∧ x6.drew.cell? ⟨w.heap.size, 1, none⟩ = some (s0) ∧ x6.drew.cell? ⟨w.heap.size, 2, none⟩ = some (.int .i64 c0) ∧ x6.drew.cell? ⟨w.heap.size, 3, none⟩ = some (u0) ∧ x6.drew.cell? ⟨w.heap.size, 4, none⟩ = some (.string ⟨b0.toArray⟩) ∧ x6.drew.cell? ⟨w.heap.size, 5, none⟩ = some (p0) ∧ x6.drew.cell? ⟨w.heap.size, 6, none⟩ = some (.int .i64 n0) ∧ x6.drew.cell? ⟨w.heap.size, 7, none⟩ = some (.int .i64 i0) ∧ x6.drew.cell? ⟨w.heap.size, 8, none⟩ = some (.int .i64 g0) ∧ x6.drew.cell? ⟨w.heap.size, 9, none⟩ = some (.int .i64 q0)) := Lib.hid HX0.out
  have HZX : Hid (x6.drew.cell? ⟨x4.heap.size, 0, none⟩ = some (.string ⟨k0.toArray⟩) ∧ x6.drew.cell? ⟨x4.heap.size, 1, none⟩ = some ((.slice aXs (ls0.length) cXs)) ∧ x6.drew.cell? ⟨x4.heap.size, 2, none⟩ = some (.int .i64 c0) ∧ x6.drew.cell? ⟨x4.heap.size, 3, none⟩ = some ((.slice aXf (l0.length) cXf)) ∧ x6.drew.cell? ⟨x4.heap.size, 4, none⟩ = some (.string ⟨b0.toArray⟩) ∧ x6.drew.cell? ⟨x4.heap.size, 5, none⟩ = some ((.slice aXp (ps0.length) cXp)) ∧ x6.drew.cell? ⟨x4.heap.size, 6, none⟩ = some (.int .i64 n0) ∧ x6.drew.cell? ⟨x4.heap.size, 7, none⟩ = some (.int .i64 i0) ∧ x6.drew.cell? ⟨x4.heap.size, 8, none⟩ = some (.int .i64 g0) ∧ x6.drew.cell? ⟨x4.heap.size, 9, none⟩ = some (.int .i64 q0)) := Lib.hid HZX.out
  have HYs : Hid (Flds.Holds x6.drew w.heap.size s0 ls0) := Lib.hid HYs.out
  have HXs : Hid (Flds.Holds x6.drew _ (.slice aXs (ls0.length) cXs) ls0) := Lib.hid HXs.out
  have HYf : Hid (Flds.Holds x6.drew w.heap.size u0 l0) := Lib.hid HYf.out
  have HXf : Hid (Flds.Holds x6.drew _ (.slice aXf (l0.length) cXf) l0) := Lib.hid HXf.out
  have HYp : Hid (Pcs.Holds x6.drew w.heap.size p0 ps0) := Lib.hid HYp.out
  have HXp : Hid (Pcs.Holds x6.drew _ (.slice aXp (ps0.length) cXp) ps0) := Lib.hid HXp.out
  have HB := Lib.hid (Rec.below_drew HB.out)
  have hdz7 : x6.drew.heap.size = x6.heap.size := rfl
  have qhx0_0 := HX0.out.1
  have qhx0_1 := HX0.out.2.1
  have qhx0_2 := HX0.out.2.2.1
  have qhx0_3 := HX0.out.2.2.2.1
  have qhx0_4 := HX0.out.2.2.2.2.1
  have qhx0_5 := HX0.out.2.2.2.2.2.1
  have qhx0_6 := HX0.out.2.2.2.2.2.2.1
  have qhx0_7 := HX0.out.2.2.2.2.2.2.2.1
  have qhx0_8 := HX0.out.2.2.2.2.2.2.2.2.1
  have qhx0_9 := HX0.out.2.2.2.2.2.2.2.2.2
  have qhzx_0 := HZX.out.1
  have qhzx_1 := HZX.out.2.1
  have qhzx_2 := HZX.out.2.2.1
  have qhzx_3 := HZX.out.2.2.2.1
  have qhzx_4 := HZX.out.2.2.2.2.1
  have qhzx_5 := HZX.out.2.2.2.2.2.1
  have qhzx_6 := HZX.out.2.2.2.2.2.2.1
  have qhzx_7 := HZX.out.2.2.2.2.2.2.2.1
  have qhzx_8 := HZX.out.2.2.2.2.2.2.2.2.1
  have qhzx_9 := HZX.out.2.2.2.2.2.2.2.2.2
  go_wp2
  go_region_with (first | (go_at_call 6; refine (Ent.copy_ent k0 s0 ls0 c0 u0 l0 b0 p0 ps0 n0 i0 g0 q0 w.heap.size _ HYs.out HYf.out HYp.out (by have h9 := HB.out.size; omega) HLs.out HLf.out HLp.out).mono ?_; rintro e xq ⟨vCs, vCf, vCp, rfl, oCs, oCf, oCp, bq⟩; clear qhx0_0 qhx0_1 qhx0_2 qhx0_3 qhx0_4 qhx0_5 qhx0_6 qhx0_7 qhx0_8 qhx0_9 qhzx_0 qhzx_1 qhzx_2 qhzx_3 qhzx_4 qhzx_5 qhzx_6 qhzx_7 qhzx_8 qhzx_9; have hqz := bq.size; have HX0 := Lib.hid (And.intro ((bq.cell (p := ⟨w.heap.size, 0, none⟩) (Rec.lt_of_cell (HX0.out.1))).trans (HX0.out.1)) (And.intro ((bq.cell (p := ⟨w.heap.size, 1, none⟩) (Rec.lt_of_cell (HX0.out.2.1))).trans (HX0.out.2.1)) (And.intro ((bq.cell (p := ⟨w.heap.size, 2, none⟩) (Rec.lt_of_cell (HX0.out.2.2.1))).trans (HX0.out.2.2.1)) (And.intro ((bq.cell (p := ⟨w.heap.size, 3, none⟩) (Rec.lt_of_cell (HX0.out.2.2.2.1))).trans (HX0.out.2.2.2.1)) (And.intro ((bq.cell (p := ⟨w.heap.size, 4, none⟩) (Rec.lt_of_cell (HX0.out.2.2.2.2.1))).trans (HX0.out.2.2.2.2.1)) (And.intro ((bq.cell (p := ⟨w.heap.size, 5, none⟩) (Rec.lt_of_cell (HX0.out.2.2.2.2.2.1))).trans (HX0.out.2.2.2.2.2.1)) (And.intro ((bq.cell (p := ⟨w.heap.size, 6, none⟩) (Rec.lt_of_cell (HX0.out.2.2.2.2.2.2.1))).trans (HX0.out.2.2.2.2.2.2.1)) (And.intro ((bq.cell (p := ⟨w.heap.size, 7, none⟩) (Rec.lt_of_cell (HX0.out.2.2.2.2.2.2.2.1))).trans (HX0.out.2.2.2.2.2.2.2.1)) (And.intro ((bq.cell (p := ⟨w.heap.size, 8, none⟩) (Rec.lt_of_cell (HX0.out.2.2.2.2.2.2.2.2.1))).trans (HX0.out.2.2.2.2.2.2.2.2.1)) ((bq.cell (p := ⟨w.heap.size, 9, none⟩) (Rec.lt_of_cell (HX0.out.2.2.2.2.2.2.2.2.2))).trans (HX0.out.2.2.2.2.2.2.2.2.2))))))))))); have HZX := Lib.hid (And.intro ((bq.cell (p := ⟨x4.heap.size, 0, none⟩) (Rec.lt_of_cell (HZX.out.1))).trans (HZX.out.1)) (And.intro ((bq.cell (p := ⟨x4.heap.size, 1, none⟩) (Rec.lt_of_cell (HZX.out.2.1))).trans (HZX.out.2.1)) (And.intro ((bq.cell (p := ⟨x4.heap.size, 2, none⟩) (Rec.lt_of_cell (HZX.out.2.2.1))).trans (HZX.out.2.2.1)) (And.intro ((bq.cell (p := ⟨x4.heap.size, 3, none⟩) (Rec.lt_of_cell (HZX.out.2.2.2.1))).trans (HZX.out.2.2.2.1)) (And.intro ((bq.cell (p := ⟨x4.heap.size, 4, none⟩) (Rec.lt_of_cell (HZX.out.2.2.2.2.1))).trans (HZX.out.2.2.2.2.1)) (And.intro ((bq.cell (p := ⟨x4.heap.size, 5, none⟩) (Rec.lt_of_cell (HZX.out.2.2.2.2.2.1))).trans (HZX.out.2.2.2.2.2.1)) (And.intro ((bq.cell (p := ⟨x4.heap.size, 6, none⟩) (Rec.lt_of_cell (HZX.out.2.2.2.2.2.2.1))).trans (HZX.out.2.2.2.2.2.2.1)) (And.intro ((bq.cell (p := ⟨x4.heap.size, 7, none⟩) (Rec.lt_of_cell (HZX.out.2.2.2.2.2.2.2.1))).trans (HZX.out.2.2.2.2.2.2.2.1)) (And.intro ((bq.cell (p := ⟨x4.heap.size, 8, none⟩) (Rec.lt_of_cell (HZX.out.2.2.2.2.2.2.2.2.1))).trans (HZX.out.2.2.2.2.2.2.2.2.1)) ((bq.cell (p := ⟨x4.heap.size, 9, none⟩) (Rec.lt_of_cell (HZX.out.2.2.2.2.2.2.2.2.2))).trans (HZX.out.2.2.2.2.2.2.2.2.2))))))))))); have HYs := Lib.hid (Flds.holds_below HYs.out (bq.mono (by have h9 := HB.out.size; omega))); have HXs := Lib.hid (Flds.holds_below HXs.out (bq.mono (by have h9 := HB.out.size; omega))); have HYf := Lib.hid (Flds.holds_below HYf.out (bq.mono (by have h9 := HB.out.size; omega))); have HXf := Lib.hid (Flds.holds_below HXf.out (bq.mono (by have h9 := HB.out.size; omega))); have HYp := Lib.hid (Pcs.holds_below HYp.out (bq.mono (by have h9 := HB.out.size; omega))); have HXp := Lib.hid (Pcs.holds_below HXp.out (bq.mono (by have h9 := HB.out.size; omega))); have HB := Lib.hid (Base.then_below HB.out bq); have HCs := Lib.hid (Flds.own_holds oCs); have HCf := Lib.hid (Flds.own_holds oCf); have HCp := Lib.hid (Pcs.own_holds oCp); have qhx0_0 := HX0.out.1; have qhx0_1 := HX0.out.2.1; have qhx0_2 := HX0.out.2.2.1; have qhx0_3 := HX0.out.2.2.2.1; have qhx0_4 := HX0.out.2.2.2.2.1; have qhx0_5 := HX0.out.2.2.2.2.2.1; have qhx0_6 := HX0.out.2.2.2.2.2.2.1; have qhx0_7 := HX0.out.2.2.2.2.2.2.2.1; have qhx0_8 := HX0.out.2.2.2.2.2.2.2.2.1; have qhx0_9 := HX0.out.2.2.2.2.2.2.2.2.2; have qhzx_0 := HZX.out.1; have qhzx_1 := HZX.out.2.1; have qhzx_2 := HZX.out.2.2.1; have qhzx_3 := HZX.out.2.2.2.1; have qhzx_4 := HZX.out.2.2.2.2.1; have qhzx_5 := HZX.out.2.2.2.2.2.1; have qhzx_6 := HZX.out.2.2.2.2.2.2.1; have qhzx_7 := HZX.out.2.2.2.2.2.2.2.1; have qhzx_8 := HZX.out.2.2.2.2.2.2.2.2.1; have qhzx_9 := HZX.out.2.2.2.2.2.2.2.2.2; clear bq oCs oCf oCp) | (go_at_call 8; refine (Ent.eq_ent k0 (.slice aXs (ls0.length) cXs) ls0 c0 (.slice aXf (l0.length) cXf) l0 b0 (.slice aXp (ps0.length) cXp) ps0 n0 i0 g0 q0 vCs vCf vCp _ _ _ HXs.out HXf.out HXp.out (by have h9 := HB.out.size; omega) HCs.out HCf.out HCp.out (by omega) HLs.out HLf.out HLp.out).mono ?_; rintro e xq ⟨rfl, bq⟩; have HB := Lib.hid (Base.then_below HB.out bq); clear bq HXs HCs HXf HCf HXp HCp qhx0_0 qhx0_1 qhx0_2 qhx0_3 qhx0_4 qhx0_5 qhx0_6 qhx0_7 qhx0_8 qhx0_9 qhzx_0 qhzx_1 qhzx_2 qhzx_3 qhzx_4 qhzx_5 qhzx_6 qhzx_7 qhzx_8 qhzx_9))
  all_goals go_wp2
  all_goals go_ret
  all_goals exact ⟨rfl, HB.out⟩

set_option maxRecDepth 1000000 in
theorem lifted (os : Os) (started : os.Started) (H : Type) (enc : TypeId × Value → H) :
    ReturnsInHanded {} Tryz.checked os 3 .any (fun w args => (Rows.fnExactIsEntrySpec.pre enc Tryz.prog Tryz.f3 [] false w args ∧ laidMetH Tryz.prog Rows.fnExactIsEntryRow.laid w) ∧ sizedMet enc Tryz.prog Tryz.f3 (OpenSpec.ofChange Rows.fnExactIsEntrySpec) false w args)
      (Rows.fnExactIsEntrySpec.post enc Tryz.prog Tryz.f3 false true false false) := by
  refine returnsInHanded_of_change_and (C := Tryz.checked) (X := fun w _ => laidMetH Tryz.prog Rows.fnExactIsEntryRow.laid w) (fun _ _ _ hh h => h.of_heap hh) own started (by kernel_rfl) Tryz.func3
    (ChangeSpec.witness_shaped (enc := enc) (C := Tryz.checked) (os := os) (X := fun w _ => laidMetH Tryz.prog Rows.fnExactIsEntryRow.laid w) false (World.laidAll Tryz.prog os Rows.fnExactIsEntryRow.laid) #[.agg #[.string ⟨#[]⟩, .slice none 0 0, .int .i64 0, .slice none 0 0, .string ⟨#[]⟩, .slice none 0 0, .int .i64 0, .int .i64 0, .int .i64 0, .int .i64 0]] 8 (World.laidAll_os _ _ _) (World.shaped_of_ZipB (by kernel_rfl) (by kernel_rfl)) (by kernel_rfl) (by kernel_rfl) (by kernel_rfl)
      (by rw [MakeChecks.laidMetH_plain _ _ _ (by kernel_rfl)]; exact laidMet_laidAll _ (by kernel_rfl) (by kernel_rfl))) ?_
  intro W base args ds gs before hval0 hW _ _ hL _
  have hval : ∀ (j : Nat) t v, Tryz.f3.params[j]? = some t → args[j]? = some v → Value.okWide Tryz.prog W .any base t v := hval0
  have hW' := hW
  obtain ⟨p, q, hA0, hV, rfl, hfz, hnd⟩ := hW
  have hA : DataW.TrodAll enc Tryz.prog W 0 (fun _ => true) true Tryz.f3.params.toList args.toList ds p := hA0
  rw [Tryz.params3] at hA hval
  obtain ⟨v0, vs0, d0, ds0, p0, q0, hargs, rfl, rfl, h0, r0⟩ := trodAll_cons hA
  obtain ⟨rfl, rfl, rfl⟩ := trodAll_nil r0
  obtain rfl : args = #[v0] := by cases args; simp_all
  have hgl := vars_len hV
  obtain ⟨g0, g1, g2, rfl⟩ : ∃ g0 g1 g2, gs = [g0, g1, g2] := match gs, hgl with | [x0, x1, x2], _ => ⟨x0, x1, x2, rfl⟩
  have k0 := h0
  obtain ⟨k0_, s0, ls0, c0, u0, l0, b0, pp0, ps0, n0, i0, g0, q0_, rfl, y0_0, y0_1, y0_2, w0⟩ := Ent.open_ent (hval 0 27 v0 rfl rfl) h0
  have y0 := And.intro y0_0 (And.intro y0_1 y0_2)
  clear hA0 hval0
  simp only [List.append_nil] at hW'
  have hL' : laidMet Tryz.prog Rows.fnExactIsEntryRow.laid W := by rw [← MakeChecks.laidMetH_plain _ _ _ (by kernel_rfl)]; exact hL
  refine (walk k0_ s0 ls0 c0 u0 l0 b0 pp0 ps0 n0 i0 g0 q0_ w0 W y0 ⟨Laid.mds hL' (by simp [Rows.fnExactIsEntryRow]), Dt.laid_names hL' (by simp [Rows.fnExactIsEntryRow]) (by simp [Rows.fnExactIsEntryRow]), Laid.tens hL' (by simp [Rows.fnExactIsEntryRow])⟩).mono fun e W' ⟨he, hb⟩ => ?_
  subst he
  exact ⟨_, rfl, ⟨_, _, _, [], _, _, hW', (trodAll_cons_mk (shut_bool Tryz.underlying4 _) trodAll_mk0), (trodAll_cons_mk (Below.trod laidOut (by kernel_rfl) (of_decide_eq_true (by kernel_rfl)) k0 hb (fun x hx => hW'.lt x (by simp [hx]))) trodAll_mk0), Below.trodVars laidOut hb (by kernel_rfl) hV, hb.frame _, fun h => by cases h⟩⟩

theorem over : Rows.fnExactIsEntryRow.holds Tryz.pinned (OpenSpec.ofChange Rows.fnExactIsEntrySpec) :=
  OpenClaim.holds_of_wide 3 Tryz.f3 rfl rfl rfl rfl rfl rfl rfl ⟨rfl, rfl, rfl, rfl, rfl⟩ rfl rfl rfl rfl rfl (by kernel_rfl) Tryz.func3 (by kernel_rfl)
    (of_decide_eq_true (by kernel_rfl)) (by unfold Func.isWrapper; first | (rw [if_pos (by decide +kernel)]; kernel_rfl) | (rw [if_neg (by decide +kernel)]; exact ⟨rfl, rfl⟩))
    (fun os started H enc _ => lifted os started H enc)

/-- The given statement: the law's card, tied. -/
theorem proved : Rows.FnExactIsEntryCardSaid :=
  Claim7.holds_tied_plain_at .later [] _ true _ _
    over (fun _ h => by cases h) (by kernel_rfl) (fun _ h => by cases h) fnExactIsEntry_row_tie rfl ⟨rfl, rfl⟩ (by kernel_rfl) rfl
    (fun f fn hf hfn => by
      obtain rfl : f = 3 := Option.some.inj ((show Tryz.prog.funcNamed "loop.example/g03012/laws.FnExactIsEntry" = some 3 by kernel_rfl).symm.trans hf) |>.symm
      obtain rfl : fn = Tryz.f3 := (Option.some.inj (Tryz.func3.symm.trans hfn)).symm
      exact ⟨by kernel_rfl, fun j t ht => by
        rw [Tryz.params3] at ht
        have hm : t ∈ [27] := by simpa using Array.mem_of_getElem? ht
        have hall : ([27].all fun u => !Tryz.prog.wantsStandIn u) = true := by kernel_rfl
        exact (show Tryz.prog.wantsStandIn t = false by simpa using List.all_eq_true.1 hall t hm)⟩)
    (by kernel_rfl)
#print axioms proved
end Go.Proofs.YtjjelbijbbnmcaaGreatDoor.fnExactIsEntry
