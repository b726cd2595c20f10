/-
  PROVED: at every given answer the program's IsAsked says what its model says and writes into no argument: the exact law of IsAsked returns true and leaves its argument as it was. CONDITION: the program's tables of weekdays, months and days of months, its two errors of directives, the library's table of powers of ten and its errors read as their texts lay them, the other listed variables as pinned (the card ties them to the text of the pruned project).
-/
import Derived.Test.YtjeihicjfgimdaaGreatDoorPartA
import Derived.Carry
import Derived.Test.YtjeihicjfgimdaaGreatDoorPartAN
import Derived.Test.YtjeihicjfgimdaaGreatDoorPartAO
import Derived.Test.YtjeihicjfgimdaaGreatDoorPartR
import Derived.Test.YtjeihicjfgimdaaGreatDoorPartAD
import Derived.Test.YtjeihicjfgimdaaGreatDoorTie
import Derived.Test.YtjeihicjfgimdaaGreatDoorCards
import Derived.LaidMore
import Derived.Lay
import Derived.OpenVars
import Derived.Stop.LaidErr
import Derived.RegionTactic
import Derived.Deep.RegionWith
namespace Go.Proofs.YtjeihicjfgimdaaGreatDoor.fnExactIsAsked
open Go.ChangeShapes Go.WideShapes Go.ChangeAt Go.RowKit
set_option linter.unusedVariables false
set_option maxRecDepth 1000000

theorem own : ownKnob Tryz.prog.godebug = none := by kernel_rfl

theorem vars_len {H : Type} {enc : TypeId × Value → H} {P : Program} {w : World} {sp : Nat → Bool} : ∀ {ns : List String} {gs : List (DataW H)} {ps : List MemPlace}, DataW.TrodVars enc P w sp ns gs ps → gs.length = ns.length
  | [], [], _, _ => rfl
  | [], _ :: _, _, h => h.elim
  | _ :: _, [], _, h => h.elim
  | _ :: ns, _ :: gs, _, ⟨_, _, _, _, _, _, _, _, _, _, h, _⟩ => congrArg Nat.succ (vars_len h)

theorem laidOut : laidOutB Tryz.prog = true := by kernel_rfl

set_option maxHeartbeats 4000000 in
theorem walk (n0 : Int) (m0 ho0 t0 : List UInt8) (u0 : Value) (l0 : List Flds.Fld) (c0 : Int) (x0 : Value) (lx0 : List Flds.Fld) (b0 : List UInt8) (a0 : Int) (p0 : Value) (ps0 : List Pur.T) (w0 : Giv.Ok n0 m0 ho0 t0 l0 c0 lx0 b0 a0 ps0) (w : World) (y0 : Flds.Holds w w.heap.size u0 l0 ∧ Flds.Holds w w.heap.size x0 lx0 ∧ Pur.Holds w w.heap.size p0 ps0) (ht : Age.Tabs w) (her : Par.Errs w) (hv : Dir.Errs w) :
    Calls Tryz.prog 3 #[.agg #[.int .i64 n0, .string ⟨m0.toArray⟩, .string ⟨ho0.toArray⟩, .string ⟨t0.toArray⟩, u0, .int .i64 c0, x0, .string ⟨b0.toArray⟩, .int .i64 a0, p0]] w fun e w' => e = .returned (.bool true) ∧ Below w.heap.size w w' := by
  have HTB := Lib.hid ht
  have HPE := Lib.hid her
  have HER := Lib.hid hv
  clear ht her hv
  have HW0 := Lib.hid w0
  have HYu := Lib.hid y0.1
  have HYx := Lib.hid y0.2.1
  have HYp := Lib.hid y0.2.2
  clear w0 y0
  have HB : Hid (Below w.heap.size w (w.alloc (.cells #[.int .i64 n0, .string ⟨m0.toArray⟩, .string ⟨ho0.toArray⟩, .string ⟨t0.toArray⟩, u0, .int .i64 c0, x0, .string ⟨b0.toArray⟩, .int .i64 a0, p0] 29))) := Lib.hid ((Below.refl w.heap.size w).alloc (by simp) (.cells #[.int .i64 n0, .string ⟨m0.toArray⟩, .string ⟨ho0.toArray⟩, .string ⟨t0.toArray⟩, u0, .int .i64 c0, x0, .string ⟨b0.toArray⟩, .int .i64 a0, p0] 29))
  have hz0' : w.heap.size < (w.alloc (.cells #[.int .i64 n0, .string ⟨m0.toArray⟩, .string ⟨ho0.toArray⟩, .string ⟨t0.toArray⟩, u0, .int .i64 c0, x0, .string ⟨b0.toArray⟩, .int .i64 a0, p0] 29)).heap.size := by simp
  have HX0 : Hid ((w.alloc (.cells #[.int .i64 n0, .string ⟨m0.toArray⟩, .string ⟨ho0.toArray⟩, .string ⟨t0.toArray⟩, u0, .int .i64 c0, x0, .string ⟨b0.toArray⟩, .int .i64 a0, p0] 29)).cell? ⟨w.heap.size, 0, none⟩ = some (.int .i64 n0) ∧ (w.alloc (.cells #[.int .i64 n0, .string ⟨m0.toArray⟩, .string ⟨ho0.toArray⟩, .string ⟨t0.toArray⟩, u0, .int .i64 c0, x0, .string ⟨b0.toArray⟩, .int .i64 a0, p0] 29)).cell? ⟨w.heap.size, 1, none⟩ = some (.string ⟨m0.toArray⟩) ∧ (w.alloc (.cells #[.int .i64 n0, .string ⟨m0.toArray⟩, .string ⟨ho0.toArray⟩, .string ⟨t0.toArray⟩, u0, .int .i64 c0, x0, .string ⟨b0.toArray⟩, .int .i64 a0, p0] 29)).cell? ⟨w.heap.size, 2, none⟩ = some (.string ⟨ho0.toArray⟩) ∧ (w.alloc (.cells #[.int .i64 n0, .string ⟨m0.toArray⟩, .string ⟨ho0.toArray⟩, .string ⟨t0.toArray⟩, u0, .int .i64 c0, x0, .string ⟨b0.toArray⟩, .int .i64 a0, p0] 29)).cell? ⟨w.heap.size, 3, none⟩ = some (.string ⟨t0.toArray⟩) ∧ (w.alloc (.cells #[.int .i64 n0, .string ⟨m0.toArray⟩, .string ⟨ho0.toArray⟩, .string ⟨t0.toArray⟩, u0, .int .i64 c0, x0, .string ⟨b0.toArray⟩, .int .i64 a0, p0] 29)).cell? ⟨w.heap.size, 4, none⟩ = some (u0) ∧ (w.alloc (.cells #[.int .i64 n0, .string ⟨m0.toArray⟩, .string ⟨ho0.toArray⟩, .string ⟨t0.toArray⟩, u0, .int .i64 c0, x0, .string ⟨b0.toArray⟩, .int .i64 a0, p0] 29)).cell? ⟨w.heap.size, 5, none⟩ = some (.int .i64 c0) ∧ (w.alloc (.cells #[.int .i64 n0, .string ⟨m0.toArray⟩, .string ⟨ho0.toArray⟩, .string ⟨t0.toArray⟩, u0, .int .i64 c0, x0, .string ⟨b0.toArray⟩, .int .i64 a0, p0] 29)).cell? ⟨w.heap.size, 6, none⟩ = some (x0) ∧ (w.alloc (.cells #[.int .i64 n0, .string ⟨m0.toArray⟩, .string ⟨ho0.toArray⟩, .string ⟨t0.toArray⟩, u0, .int .i64 c0, x0, .string ⟨b0.toArray⟩, .int .i64 a0, p0] 29)).cell? ⟨w.heap.size, 7, none⟩ = some (.string ⟨b0.toArray⟩) ∧ (w.alloc (.cells #[.int .i64 n0, .string ⟨m0.toArray⟩, .string ⟨ho0.toArray⟩, .string ⟨t0.toArray⟩, u0, .int .i64 c0, x0, .string ⟨b0.toArray⟩, .int .i64 a0, p0] 29)).cell? ⟨w.heap.size, 8, none⟩ = some (.int .i64 a0) ∧ (w.alloc (.cells #[.int .i64 n0, .string ⟨m0.toArray⟩, .string ⟨ho0.toArray⟩, .string ⟨t0.toArray⟩, u0, .int .i64 c0, x0, .string ⟨b0.toArray⟩, .int .i64 a0, p0] 29)).cell? ⟨w.heap.size, 9, none⟩ = some (p0)) := Lib.hid ⟨by rw [World.cell?_alloc_new]; rfl, by rw [World.cell?_alloc_new]; rfl, by rw [World.cell?_alloc_new]; rfl, by rw [World.cell?_alloc_new]; rfl, by rw [World.cell?_alloc_new]; rfl, by rw [World.cell?_alloc_new]; rfl, by rw [World.cell?_alloc_new]; rfl, by rw [World.cell?_alloc_new]; rfl, by rw [World.cell?_alloc_new]; rfl, by rw [World.cell?_alloc_new]; rfl⟩
  have HYu := Lib.hid (Flds.holds_below HYu.out (HB.out.mono (Nat.le_refl _)))
  have HYx := Lib.hid (Flds.holds_below HYx.out (HB.out.mono (Nat.le_refl _)))
  have HYp := Lib.hid (Pur.holds_below HYp.out (HB.out.mono (Nat.le_refl _)))
  have hszw := HB.out.size
  go_enter Tryz.func3, Tryz.ntmps3
  have HX0o := HX0.out
  obtain ⟨hx0_0, hx0_1, hx0_2, hx0_3, hx0_4, hx0_5, hx0_6, hx0_7, hx0_8, hx0_9⟩ := HX0o
  go_wp2_with (fail)
  go_at_call 7
  refine (Giv.size_giv n0 m0 ho0 t0 u0 l0 c0 x0 lx0 b0 a0 p0 ps0 _ w.heap.size _ HYu.out HYx.out HYp.out (by omega) HW0.out (by decide) (by decide)).mono ?_
  rintro e x1 ⟨z_0, rfl, hz0, b1⟩
  have hs1 := b1.size
  clear hx0_0 hx0_1 hx0_2 hx0_3 hx0_4 hx0_5 hx0_6 hx0_7 hx0_8 hx0_9
  have HYu := Lib.hid (Flds.holds_below HYu.out (b1.mono (by omega)))
  have HYx := Lib.hid (Flds.holds_below HYx.out (b1.mono (by omega)))
  have HYp := Lib.hid (Pur.holds_below HYp.out (b1.mono (by omega)))
  have HX0 := Lib.hid (And.intro ((b1.cell (p := ⟨w.heap.size, 0, none⟩) (Rec.lt_of_cell (HX0.out.1))).trans (HX0.out.1)) (And.intro ((b1.cell (p := ⟨w.heap.size, 1, none⟩) (Rec.lt_of_cell (HX0.out.2.1))).trans (HX0.out.2.1)) (And.intro ((b1.cell (p := ⟨w.heap.size, 2, none⟩) (Rec.lt_of_cell (HX0.out.2.2.1))).trans (HX0.out.2.2.1)) (And.intro ((b1.cell (p := ⟨w.heap.size, 3, none⟩) (Rec.lt_of_cell (HX0.out.2.2.2.1))).trans (HX0.out.2.2.2.1)) (And.intro ((b1.cell (p := ⟨w.heap.size, 4, none⟩) (Rec.lt_of_cell (HX0.out.2.2.2.2.1))).trans (HX0.out.2.2.2.2.1)) (And.intro ((b1.cell (p := ⟨w.heap.size, 5, none⟩) (Rec.lt_of_cell (HX0.out.2.2.2.2.2.1))).trans (HX0.out.2.2.2.2.2.1)) (And.intro ((b1.cell (p := ⟨w.heap.size, 6, none⟩) (Rec.lt_of_cell (HX0.out.2.2.2.2.2.2.1))).trans (HX0.out.2.2.2.2.2.2.1)) (And.intro ((b1.cell (p := ⟨w.heap.size, 7, none⟩) (Rec.lt_of_cell (HX0.out.2.2.2.2.2.2.2.1))).trans (HX0.out.2.2.2.2.2.2.2.1)) (And.intro ((b1.cell (p := ⟨w.heap.size, 8, none⟩) (Rec.lt_of_cell (HX0.out.2.2.2.2.2.2.2.2.1))).trans (HX0.out.2.2.2.2.2.2.2.2.1)) ((b1.cell (p := ⟨w.heap.size, 9, none⟩) (Rec.lt_of_cell (HX0.out.2.2.2.2.2.2.2.2.2))).trans (HX0.out.2.2.2.2.2.2.2.2.2)))))))))))
  have HB := Lib.hid (Base.then_below HB.out b1)
  clear b1
  rcases hz0 with hz0 | ⟨hz0, ht0⟩
  · go_wp2
    go_ret
    exact ⟨rfl, HB.out⟩
  have hzn0 : ¬ z_0 < 0 := by omega
  have HZ0 : Hid (z_0 + ((Giv.tot m0 ho0 t0 l0 lx0 b0 ps0 : Nat) : Int) = 1048576) := Lib.hid (by omega)
  clear ht0
  have HLu : Hid (l0.length ≤ 1048576) := Lib.hid (by have := HZ0.out; unfold Giv.tot Flds.total at this; omega)
  have HLx : Hid (lx0.length ≤ 1048576) := Lib.hid (by have := HZ0.out; unfold Giv.tot Flds.total at this; omega)
  have HLp : Hid (ps0.length ≤ 1048576) := Lib.hid (Nat.le_trans (Pur.len_le_total ps0) (by have := HZ0.out; unfold Giv.tot at this; omega))
  have HTu : Hid (Flds.total l0 ≤ 1048576) := Lib.hid (by have := HZ0.out; unfold Giv.tot at this; omega)
  have HTx : Hid (Flds.total lx0 ≤ 1048576) := Lib.hid (by have := HZ0.out; unfold Giv.tot at this; omega)
  obtain ⟨r0, hr0⟩ : ∃ z, z = Giv.asked l0 lx0 := ⟨_, rfl⟩
  have HGr0 := Lib.hid hr0
  clear hr0
  have HX0o := HX0.out
  obtain ⟨hx0_0, hx0_1, hx0_2, hx0_3, hx0_4, hx0_5, hx0_6, hx0_7, hx0_8, hx0_9⟩ := HX0o
  go_wp2_with (fail)
  go_at_call 9
  refine (Giv.copy_giv n0 m0 ho0 t0 u0 l0 c0 x0 lx0 b0 a0 p0 ps0 w.heap.size _ HYu.out HYx.out HYp.out (by have h9 := HB.out.size; omega) HLu.out HLx.out HLp.out).mono ?_
  rintro e x2 ⟨vAu, vAx, vAp, rfl, oAu, oAx, oAp, b2⟩
  have hs2 := b2.size
  obtain ⟨aAu, cAu, rfl, _⟩ := Rec.shape_at oAu
  obtain ⟨aAx, cAx, rfl, _⟩ := Rec.shape_at oAx
  obtain ⟨aAp, cAp, rfl, _⟩ := Rec.shape_at oAp
  clear hx0_0 hx0_1 hx0_2 hx0_3 hx0_4 hx0_5 hx0_6 hx0_7 hx0_8 hx0_9
  have HYu := Lib.hid (Flds.holds_below HYu.out (b2.mono (by omega)))
  have HYx := Lib.hid (Flds.holds_below HYx.out (b2.mono (by omega)))
  have HYp := Lib.hid (Pur.holds_below HYp.out (b2.mono (by omega)))
  have HX0 := Lib.hid (And.intro ((b2.cell (p := ⟨w.heap.size, 0, none⟩) (Rec.lt_of_cell (HX0.out.1))).trans (HX0.out.1)) (And.intro ((b2.cell (p := ⟨w.heap.size, 1, none⟩) (Rec.lt_of_cell (HX0.out.2.1))).trans (HX0.out.2.1)) (And.intro ((b2.cell (p := ⟨w.heap.size, 2, none⟩) (Rec.lt_of_cell (HX0.out.2.2.1))).trans (HX0.out.2.2.1)) (And.intro ((b2.cell (p := ⟨w.heap.size, 3, none⟩) (Rec.lt_of_cell (HX0.out.2.2.2.1))).trans (HX0.out.2.2.2.1)) (And.intro ((b2.cell (p := ⟨w.heap.size, 4, none⟩) (Rec.lt_of_cell (HX0.out.2.2.2.2.1))).trans (HX0.out.2.2.2.2.1)) (And.intro ((b2.cell (p := ⟨w.heap.size, 5, none⟩) (Rec.lt_of_cell (HX0.out.2.2.2.2.2.1))).trans (HX0.out.2.2.2.2.2.1)) (And.intro ((b2.cell (p := ⟨w.heap.size, 6, none⟩) (Rec.lt_of_cell (HX0.out.2.2.2.2.2.2.1))).trans (HX0.out.2.2.2.2.2.2.1)) (And.intro ((b2.cell (p := ⟨w.heap.size, 7, none⟩) (Rec.lt_of_cell (HX0.out.2.2.2.2.2.2.2.1))).trans (HX0.out.2.2.2.2.2.2.2.1)) (And.intro ((b2.cell (p := ⟨w.heap.size, 8, none⟩) (Rec.lt_of_cell (HX0.out.2.2.2.2.2.2.2.2.1))).trans (HX0.out.2.2.2.2.2.2.2.2.1)) ((b2.cell (p := ⟨w.heap.size, 9, none⟩) (Rec.lt_of_cell (HX0.out.2.2.2.2.2.2.2.2.2))).trans (HX0.out.2.2.2.2.2.2.2.2.2)))))))))))
  have HB := Lib.hid (Base.then_below HB.out b2)
  clear b2
  have HAu := Lib.hid (Flds.own_holds oAu)
  have HAx := Lib.hid (Flds.own_holds oAx)
  have HAp := Lib.hid (Pur.own_holds oAp)
  clear oAu oAx oAp
  go_wp2_with (fail)
  go_at_call 8
  refine (Giv.spec_asked n0 m0 ho0 t0 (.slice aAu (l0.length) cAu) l0 c0 (.slice aAx (lx0.length) cAx) lx0 b0 a0 (.slice aAp (ps0.length) cAp) _ _ (Flds.holds_more HAu.out (by have h9 := HB.out.size; omega)) (Flds.holds_more HAx.out (by have h9 := HB.out.size; omega)) (Nat.le_refl _) HTu.out HTx.out (Age.tabs_below HTB.out HB.out) (Par.errs_below HPE.out HB.out) (Dir.errs_below HER.out HB.out)).mono ?_
  rintro e x3 ⟨he, b3⟩
  rw [← HGr0.out] at he
  subst he
  have hs3 := b3.size
  have HYu := Lib.hid (Flds.holds_below HYu.out (b3.mono (by omega)))
  have HYx := Lib.hid (Flds.holds_below HYx.out (b3.mono (by omega)))
  have HYp := Lib.hid (Pur.holds_below HYp.out (b3.mono (by omega)))
  have HX0 := Lib.hid (And.intro ((b3.cell (p := ⟨w.heap.size, 0, none⟩) (Rec.lt_of_cell (HX0.out.1))).trans (HX0.out.1)) (And.intro ((b3.cell (p := ⟨w.heap.size, 1, none⟩) (Rec.lt_of_cell (HX0.out.2.1))).trans (HX0.out.2.1)) (And.intro ((b3.cell (p := ⟨w.heap.size, 2, none⟩) (Rec.lt_of_cell (HX0.out.2.2.1))).trans (HX0.out.2.2.1)) (And.intro ((b3.cell (p := ⟨w.heap.size, 3, none⟩) (Rec.lt_of_cell (HX0.out.2.2.2.1))).trans (HX0.out.2.2.2.1)) (And.intro ((b3.cell (p := ⟨w.heap.size, 4, none⟩) (Rec.lt_of_cell (HX0.out.2.2.2.2.1))).trans (HX0.out.2.2.2.2.1)) (And.intro ((b3.cell (p := ⟨w.heap.size, 5, none⟩) (Rec.lt_of_cell (HX0.out.2.2.2.2.2.1))).trans (HX0.out.2.2.2.2.2.1)) (And.intro ((b3.cell (p := ⟨w.heap.size, 6, none⟩) (Rec.lt_of_cell (HX0.out.2.2.2.2.2.2.1))).trans (HX0.out.2.2.2.2.2.2.1)) (And.intro ((b3.cell (p := ⟨w.heap.size, 7, none⟩) (Rec.lt_of_cell (HX0.out.2.2.2.2.2.2.2.1))).trans (HX0.out.2.2.2.2.2.2.2.1)) (And.intro ((b3.cell (p := ⟨w.heap.size, 8, none⟩) (Rec.lt_of_cell (HX0.out.2.2.2.2.2.2.2.2.1))).trans (HX0.out.2.2.2.2.2.2.2.2.1)) ((b3.cell (p := ⟨w.heap.size, 9, none⟩) (Rec.lt_of_cell (HX0.out.2.2.2.2.2.2.2.2.2))).trans (HX0.out.2.2.2.2.2.2.2.2.2)))))))))))
  have HB := Lib.hid (Base.then_below HB.out b3)
  clear b3
  have HX0o := HX0.out
  obtain ⟨hx0_0, hx0_1, hx0_2, hx0_3, hx0_4, hx0_5, hx0_6, hx0_7, hx0_8, hx0_9⟩ := HX0o
  go_wp2_with (fail)
  go_at_call 9
  refine (Giv.copy_giv n0 m0 ho0 t0 u0 l0 c0 x0 lx0 b0 a0 p0 ps0 w.heap.size _ HYu.out HYx.out HYp.out (by have h9 := HB.out.size; omega) HLu.out HLx.out HLp.out).mono ?_
  rintro e x4 ⟨vXu, vXx, vXp, rfl, oXu, oXx, oXp, b4⟩
  have hs4 := b4.size
  obtain ⟨aXu, cXu, rfl, _⟩ := Rec.shape_at oXu
  obtain ⟨aXx, cXx, rfl, _⟩ := Rec.shape_at oXx
  obtain ⟨aXp, cXp, rfl, _⟩ := Rec.shape_at oXp
  clear hx0_0 hx0_1 hx0_2 hx0_3 hx0_4 hx0_5 hx0_6 hx0_7 hx0_8 hx0_9
  have HYu := Lib.hid (Flds.holds_below HYu.out (b4.mono (by omega)))
  have HYx := Lib.hid (Flds.holds_below HYx.out (b4.mono (by omega)))
  have HYp := Lib.hid (Pur.holds_below HYp.out (b4.mono (by omega)))
  have HX0 := Lib.hid (And.intro ((b4.cell (p := ⟨w.heap.size, 0, none⟩) (Rec.lt_of_cell (HX0.out.1))).trans (HX0.out.1)) (And.intro ((b4.cell (p := ⟨w.heap.size, 1, none⟩) (Rec.lt_of_cell (HX0.out.2.1))).trans (HX0.out.2.1)) (And.intro ((b4.cell (p := ⟨w.heap.size, 2, none⟩) (Rec.lt_of_cell (HX0.out.2.2.1))).trans (HX0.out.2.2.1)) (And.intro ((b4.cell (p := ⟨w.heap.size, 3, none⟩) (Rec.lt_of_cell (HX0.out.2.2.2.1))).trans (HX0.out.2.2.2.1)) (And.intro ((b4.cell (p := ⟨w.heap.size, 4, none⟩) (Rec.lt_of_cell (HX0.out.2.2.2.2.1))).trans (HX0.out.2.2.2.2.1)) (And.intro ((b4.cell (p := ⟨w.heap.size, 5, none⟩) (Rec.lt_of_cell (HX0.out.2.2.2.2.2.1))).trans (HX0.out.2.2.2.2.2.1)) (And.intro ((b4.cell (p := ⟨w.heap.size, 6, none⟩) (Rec.lt_of_cell (HX0.out.2.2.2.2.2.2.1))).trans (HX0.out.2.2.2.2.2.2.1)) (And.intro ((b4.cell (p := ⟨w.heap.size, 7, none⟩) (Rec.lt_of_cell (HX0.out.2.2.2.2.2.2.2.1))).trans (HX0.out.2.2.2.2.2.2.2.1)) (And.intro ((b4.cell (p := ⟨w.heap.size, 8, none⟩) (Rec.lt_of_cell (HX0.out.2.2.2.2.2.2.2.2.1))).trans (HX0.out.2.2.2.2.2.2.2.2.1)) ((b4.cell (p := ⟨w.heap.size, 9, none⟩) (Rec.lt_of_cell (HX0.out.2.2.2.2.2.2.2.2.2))).trans (HX0.out.2.2.2.2.2.2.2.2.2)))))))))))
  have HB := Lib.hid (Base.then_below HB.out b4)
  clear b4
  have HXu := Lib.hid (Flds.own_holds oXu)
  have HXx := Lib.hid (Flds.own_holds oXx)
  have HXp := Lib.hid (Pur.own_holds oXp)
  clear oXu oXx oXp
  have hsa5 : (x4.alloc (.cells #[.int .i64 n0, .string ⟨m0.toArray⟩, .string ⟨ho0.toArray⟩, .string ⟨t0.toArray⟩, (.slice aXu (l0.length) cXu), .int .i64 c0, (.slice aXx (lx0.length) cXx), .string ⟨b0.toArray⟩, .int .i64 a0, (.slice aXp (ps0.length) cXp)] 39)).heap.size = x4.heap.size + 1 := by simp
  have HYu := Lib.hid (Flds.holds_below HYu.out (((Below.refl x4.heap.size x4).alloc (Nat.le_refl _) (.cells #[.int .i64 n0, .string ⟨m0.toArray⟩, .string ⟨ho0.toArray⟩, .string ⟨t0.toArray⟩, (.slice aXu (l0.length) cXu), .int .i64 c0, (.slice aXx (lx0.length) cXx), .string ⟨b0.toArray⟩, .int .i64 a0, (.slice aXp (ps0.length) cXp)] 39)).mono (by omega)))
  have HYx := Lib.hid (Flds.holds_below HYx.out (((Below.refl x4.heap.size x4).alloc (Nat.le_refl _) (.cells #[.int .i64 n0, .string ⟨m0.toArray⟩, .string ⟨ho0.toArray⟩, .string ⟨t0.toArray⟩, (.slice aXu (l0.length) cXu), .int .i64 c0, (.slice aXx (lx0.length) cXx), .string ⟨b0.toArray⟩, .int .i64 a0, (.slice aXp (ps0.length) cXp)] 39)).mono (by omega)))
  have HYp := Lib.hid (Pur.holds_below HYp.out (((Below.refl x4.heap.size x4).alloc (Nat.le_refl _) (.cells #[.int .i64 n0, .string ⟨m0.toArray⟩, .string ⟨ho0.toArray⟩, .string ⟨t0.toArray⟩, (.slice aXu (l0.length) cXu), .int .i64 c0, (.slice aXx (lx0.length) cXx), .string ⟨b0.toArray⟩, .int .i64 a0, (.slice aXp (ps0.length) cXp)] 39)).mono (by omega)))
  have HX0 := Lib.hid (And.intro ((((Below.refl x4.heap.size x4).alloc (Nat.le_refl _) (.cells #[.int .i64 n0, .string ⟨m0.toArray⟩, .string ⟨ho0.toArray⟩, .string ⟨t0.toArray⟩, (.slice aXu (l0.length) cXu), .int .i64 c0, (.slice aXx (lx0.length) cXx), .string ⟨b0.toArray⟩, .int .i64 a0, (.slice aXp (ps0.length) cXp)] 39)).cell (p := ⟨w.heap.size, 0, none⟩) (Rec.lt_of_cell (HX0.out.1))).trans (HX0.out.1)) (And.intro ((((Below.refl x4.heap.size x4).alloc (Nat.le_refl _) (.cells #[.int .i64 n0, .string ⟨m0.toArray⟩, .string ⟨ho0.toArray⟩, .string ⟨t0.toArray⟩, (.slice aXu (l0.length) cXu), .int .i64 c0, (.slice aXx (lx0.length) cXx), .string ⟨b0.toArray⟩, .int .i64 a0, (.slice aXp (ps0.length) cXp)] 39)).cell (p := ⟨w.heap.size, 1, none⟩) (Rec.lt_of_cell (HX0.out.2.1))).trans (HX0.out.2.1)) (And.intro ((((Below.refl x4.heap.size x4).alloc (Nat.le_refl _) (.cells #[.int .i64 n0, .string ⟨m0.toArray⟩, .string ⟨ho0.toArray⟩, .string ⟨t0.toArray⟩, (.slice aXu (l0.length) cXu), .int .i64 c0, (.slice aXx (lx0.length) cXx), .string ⟨b0.toArray⟩, .int .i64 a0, (.slice aXp (ps0.length) cXp)] 39)).cell (p := ⟨w.heap.size, 2, none⟩) (Rec.lt_of_cell (HX0.out.2.2.1))).trans (HX0.out.2.2.1)) (And.intro ((((Below.refl x4.heap.size x4).alloc (Nat.le_refl _) (.cells #[.int .i64 n0, .string ⟨m0.toArray⟩, .string ⟨ho0.toArray⟩, .string ⟨t0.toArray⟩, (.slice aXu (l0.length) cXu), .int .i64 c0, (.slice aXx (lx0.length) cXx), .string ⟨b0.toArray⟩, .int .i64 a0, (.slice aXp (ps0.length) cXp)] 39)).cell (p := ⟨w.heap.size, 3, none⟩) (Rec.lt_of_cell (HX0.out.2.2.2.1))).trans (HX0.out.2.2.2.1)) (And.intro ((((Below.refl x4.heap.size x4).alloc (Nat.le_refl _) (.cells #[.int .i64 n0, .string ⟨m0.toArray⟩, .string ⟨ho0.toArray⟩, .string ⟨t0.toArray⟩, (.slice aXu (l0.length) cXu), .int .i64 c0, (.slice aXx (lx0.length) cXx), .string ⟨b0.toArray⟩, .int .i64 a0, (.slice aXp (ps0.length) cXp)] 39)).cell (p := ⟨w.heap.size, 4, none⟩) (Rec.lt_of_cell (HX0.out.2.2.2.2.1))).trans (HX0.out.2.2.2.2.1)) (And.intro ((((Below.refl x4.heap.size x4).alloc (Nat.le_refl _) (.cells #[.int .i64 n0, .string ⟨m0.toArray⟩, .string ⟨ho0.toArray⟩, .string ⟨t0.toArray⟩, (.slice aXu (l0.length) cXu), .int .i64 c0, (.slice aXx (lx0.length) cXx), .string ⟨b0.toArray⟩, .int .i64 a0, (.slice aXp (ps0.length) cXp)] 39)).cell (p := ⟨w.heap.size, 5, none⟩) (Rec.lt_of_cell (HX0.out.2.2.2.2.2.1))).trans (HX0.out.2.2.2.2.2.1)) (And.intro ((((Below.refl x4.heap.size x4).alloc (Nat.le_refl _) (.cells #[.int .i64 n0, .string ⟨m0.toArray⟩, .string ⟨ho0.toArray⟩, .string ⟨t0.toArray⟩, (.slice aXu (l0.length) cXu), .int .i64 c0, (.slice aXx (lx0.length) cXx), .string ⟨b0.toArray⟩, .int .i64 a0, (.slice aXp (ps0.length) cXp)] 39)).cell (p := ⟨w.heap.size, 6, none⟩) (Rec.lt_of_cell (HX0.out.2.2.2.2.2.2.1))).trans (HX0.out.2.2.2.2.2.2.1)) (And.intro ((((Below.refl x4.heap.size x4).alloc (Nat.le_refl _) (.cells #[.int .i64 n0, .string ⟨m0.toArray⟩, .string ⟨ho0.toArray⟩, .string ⟨t0.toArray⟩, (.slice aXu (l0.length) cXu), .int .i64 c0, (.slice aXx (lx0.length) cXx), .string ⟨b0.toArray⟩, .int .i64 a0, (.slice aXp (ps0.length) cXp)] 39)).cell (p := ⟨w.heap.size, 7, none⟩) (Rec.lt_of_cell (HX0.out.2.2.2.2.2.2.2.1))).trans (HX0.out.2.2.2.2.2.2.2.1)) (And.intro ((((Below.refl x4.heap.size x4).alloc (Nat.le_refl _) (.cells #[.int .i64 n0, .string ⟨m0.toArray⟩, .string ⟨ho0.toArray⟩, .string ⟨t0.toArray⟩, (.slice aXu (l0.length) cXu), .int .i64 c0, (.slice aXx (lx0.length) cXx), .string ⟨b0.toArray⟩, .int .i64 a0, (.slice aXp (ps0.length) cXp)] 39)).cell (p := ⟨w.heap.size, 8, none⟩) (Rec.lt_of_cell (HX0.out.2.2.2.2.2.2.2.2.1))).trans (HX0.out.2.2.2.2.2.2.2.2.1)) ((((Below.refl x4.heap.size x4).alloc (Nat.le_refl _) (.cells #[.int .i64 n0, .string ⟨m0.toArray⟩, .string ⟨ho0.toArray⟩, .string ⟨t0.toArray⟩, (.slice aXu (l0.length) cXu), .int .i64 c0, (.slice aXx (lx0.length) cXx), .string ⟨b0.toArray⟩, .int .i64 a0, (.slice aXp (ps0.length) cXp)] 39)).cell (p := ⟨w.heap.size, 9, none⟩) (Rec.lt_of_cell (HX0.out.2.2.2.2.2.2.2.2.2))).trans (HX0.out.2.2.2.2.2.2.2.2.2)))))))))))
  have HXu := Lib.hid (Flds.holds_below HXu.out (((Below.refl x4.heap.size x4).alloc (Nat.le_refl _) (.cells #[.int .i64 n0, .string ⟨m0.toArray⟩, .string ⟨ho0.toArray⟩, .string ⟨t0.toArray⟩, (.slice aXu (l0.length) cXu), .int .i64 c0, (.slice aXx (lx0.length) cXx), .string ⟨b0.toArray⟩, .int .i64 a0, (.slice aXp (ps0.length) cXp)] 39)).mono (by omega)))
  have HXx := Lib.hid (Flds.holds_below HXx.out (((Below.refl x4.heap.size x4).alloc (Nat.le_refl _) (.cells #[.int .i64 n0, .string ⟨m0.toArray⟩, .string ⟨ho0.toArray⟩, .string ⟨t0.toArray⟩, (.slice aXu (l0.length) cXu), .int .i64 c0, (.slice aXx (lx0.length) cXx), .string ⟨b0.toArray⟩, .int .i64 a0, (.slice aXp (ps0.length) cXp)] 39)).mono (by omega)))
  have HXp := Lib.hid (Pur.holds_below HXp.out (((Below.refl x4.heap.size x4).alloc (Nat.le_refl _) (.cells #[.int .i64 n0, .string ⟨m0.toArray⟩, .string ⟨ho0.toArray⟩, .string ⟨t0.toArray⟩, (.slice aXu (l0.length) cXu), .int .i64 c0, (.slice aXx (lx0.length) cXx), .string ⟨b0.toArray⟩, .int .i64 a0, (.slice aXp (ps0.length) cXp)] 39)).mono (by omega)))
  have HB := Lib.hid (HB.out.alloc HB.out.size (.cells #[.int .i64 n0, .string ⟨m0.toArray⟩, .string ⟨ho0.toArray⟩, .string ⟨t0.toArray⟩, (.slice aXu (l0.length) cXu), .int .i64 c0, (.slice aXx (lx0.length) cXx), .string ⟨b0.toArray⟩, .int .i64 a0, (.slice aXp (ps0.length) cXp)] 39))
  have HZX : Hid ((x4.alloc (.cells #[.int .i64 n0, .string ⟨m0.toArray⟩, .string ⟨ho0.toArray⟩, .string ⟨t0.toArray⟩, (.slice aXu (l0.length) cXu), .int .i64 c0, (.slice aXx (lx0.length) cXx), .string ⟨b0.toArray⟩, .int .i64 a0, (.slice aXp (ps0.length) cXp)] 39)).cell? ⟨x4.heap.size, 0, none⟩ = some (.int .i64 n0) ∧ (x4.alloc (.cells #[.int .i64 n0, .string ⟨m0.toArray⟩, .string ⟨ho0.toArray⟩, .string ⟨t0.toArray⟩, (.slice aXu (l0.length) cXu), .int .i64 c0, (.slice aXx (lx0.length) cXx), .string ⟨b0.toArray⟩, .int .i64 a0, (.slice aXp (ps0.length) cXp)] 39)).cell? ⟨x4.heap.size, 1, none⟩ = some (.string ⟨m0.toArray⟩) ∧ (x4.alloc (.cells #[.int .i64 n0, .string ⟨m0.toArray⟩, .string ⟨ho0.toArray⟩, .string ⟨t0.toArray⟩, (.slice aXu (l0.length) cXu), .int .i64 c0, (.slice aXx (lx0.length) cXx), .string ⟨b0.toArray⟩, .int .i64 a0, (.slice aXp (ps0.length) cXp)] 39)).cell? ⟨x4.heap.size, 2, none⟩ = some (.string ⟨ho0.toArray⟩) ∧ (x4.alloc (.cells #[.int .i64 n0, .string ⟨m0.toArray⟩, .string ⟨ho0.toArray⟩, .string ⟨t0.toArray⟩, (.slice aXu (l0.length) cXu), .int .i64 c0, (.slice aXx (lx0.length) cXx), .string ⟨b0.toArray⟩, .int .i64 a0, (.slice aXp (ps0.length) cXp)] 39)).cell? ⟨x4.heap.size, 3, none⟩ = some (.string ⟨t0.toArray⟩) ∧ (x4.alloc (.cells #[.int .i64 n0, .string ⟨m0.toArray⟩, .string ⟨ho0.toArray⟩, .string ⟨t0.toArray⟩, (.slice aXu (l0.length) cXu), .int .i64 c0, (.slice aXx (lx0.length) cXx), .string ⟨b0.toArray⟩, .int .i64 a0, (.slice aXp (ps0.length) cXp)] 39)).cell? ⟨x4.heap.size, 4, none⟩ = some ((.slice aXu (l0.length) cXu)) ∧ (x4.alloc (.cells #[.int .i64 n0, .string ⟨m0.toArray⟩, .string ⟨ho0.toArray⟩, .string ⟨t0.toArray⟩, (.slice aXu (l0.length) cXu), .int .i64 c0, (.slice aXx (lx0.length) cXx), .string ⟨b0.toArray⟩, .int .i64 a0, (.slice aXp (ps0.length) cXp)] 39)).cell? ⟨x4.heap.size, 5, none⟩ = some (.int .i64 c0) ∧ (x4.alloc (.cells #[.int .i64 n0, .string ⟨m0.toArray⟩, .string ⟨ho0.toArray⟩, .string ⟨t0.toArray⟩, (.slice aXu (l0.length) cXu), .int .i64 c0, (.slice aXx (lx0.length) cXx), .string ⟨b0.toArray⟩, .int .i64 a0, (.slice aXp (ps0.length) cXp)] 39)).cell? ⟨x4.heap.size, 6, none⟩ = some ((.slice aXx (lx0.length) cXx)) ∧ (x4.alloc (.cells #[.int .i64 n0, .string ⟨m0.toArray⟩, .string ⟨ho0.toArray⟩, .string ⟨t0.toArray⟩, (.slice aXu (l0.length) cXu), .int .i64 c0, (.slice aXx (lx0.length) cXx), .string ⟨b0.toArray⟩, .int .i64 a0, (.slice aXp (ps0.length) cXp)] 39)).cell? ⟨x4.heap.size, 7, none⟩ = some (.string ⟨b0.toArray⟩) ∧ (x4.alloc (.cells #[.int .i64 n0, .string ⟨m0.toArray⟩, .string ⟨ho0.toArray⟩, .string ⟨t0.toArray⟩, (.slice aXu (l0.length) cXu), .int .i64 c0, (.slice aXx (lx0.length) cXx), .string ⟨b0.toArray⟩, .int .i64 a0, (.slice aXp (ps0.length) cXp)] 39)).cell? ⟨x4.heap.size, 8, none⟩ = some (.int .i64 a0) ∧ (x4.alloc (.cells #[.int .i64 n0, .string ⟨m0.toArray⟩, .string ⟨ho0.toArray⟩, .string ⟨t0.toArray⟩, (.slice aXu (l0.length) cXu), .int .i64 c0, (.slice aXx (lx0.length) cXx), .string ⟨b0.toArray⟩, .int .i64 a0, (.slice aXp (ps0.length) cXp)] 39)).cell? ⟨x4.heap.size, 9, none⟩ = some ((.slice aXp (ps0.length) cXp))) := Lib.hid ⟨by rw [World.cell?_alloc_new]; rfl, by rw [World.cell?_alloc_new]; rfl, by rw [World.cell?_alloc_new]; rfl, by rw [World.cell?_alloc_new]; rfl, by rw [World.cell?_alloc_new]; rfl, by rw [World.cell?_alloc_new]; rfl, by rw [World.cell?_alloc_new]; rfl, by rw [World.cell?_alloc_new]; rfl, by rw [World.cell?_alloc_new]; rfl, by rw [World.cell?_alloc_new]; rfl⟩
  have HZXo := HZX.out
  obtain ⟨hzx_0, hzx_1, hzx_2, hzx_3, hzx_4, hzx_5, hzx_6, hzx_7, hzx_8, hzx_9⟩ := HZXo
  go_wp2_with (fail)
  go_at_call 10
  refine (Giv.impl_asked n0 m0 ho0 t0 (.slice aXu (l0.length) cXu) l0 c0 (.slice aXx (lx0.length) cXx) lx0 b0 a0 (.slice aXp (ps0.length) cXp) _ _ (Flds.holds_more HXu.out (by have h9 := HB.out.size; omega)) (Flds.holds_more HXx.out (by have h9 := HB.out.size; omega)) (Nat.le_refl _) HTu.out HTx.out (Age.tabs_below HTB.out HB.out) (Par.errs_below HPE.out HB.out) (Dir.errs_below HER.out HB.out)).mono ?_
  rintro e x6 ⟨he, b6⟩
  rw [← HGr0.out] at he
  subst he
  have hs6 := b6.size
  clear hzx_0 hzx_1 hzx_2 hzx_3 hzx_4 hzx_5 hzx_6 hzx_7 hzx_8 hzx_9
  have HYu := Lib.hid (Flds.holds_below HYu.out (b6.mono (by omega)))
  have HYx := Lib.hid (Flds.holds_below HYx.out (b6.mono (by omega)))
  have HYp := Lib.hid (Pur.holds_below HYp.out (b6.mono (by omega)))
  have HX0 := Lib.hid (And.intro ((b6.cell (p := ⟨w.heap.size, 0, none⟩) (Rec.lt_of_cell (HX0.out.1))).trans (HX0.out.1)) (And.intro ((b6.cell (p := ⟨w.heap.size, 1, none⟩) (Rec.lt_of_cell (HX0.out.2.1))).trans (HX0.out.2.1)) (And.intro ((b6.cell (p := ⟨w.heap.size, 2, none⟩) (Rec.lt_of_cell (HX0.out.2.2.1))).trans (HX0.out.2.2.1)) (And.intro ((b6.cell (p := ⟨w.heap.size, 3, none⟩) (Rec.lt_of_cell (HX0.out.2.2.2.1))).trans (HX0.out.2.2.2.1)) (And.intro ((b6.cell (p := ⟨w.heap.size, 4, none⟩) (Rec.lt_of_cell (HX0.out.2.2.2.2.1))).trans (HX0.out.2.2.2.2.1)) (And.intro ((b6.cell (p := ⟨w.heap.size, 5, none⟩) (Rec.lt_of_cell (HX0.out.2.2.2.2.2.1))).trans (HX0.out.2.2.2.2.2.1)) (And.intro ((b6.cell (p := ⟨w.heap.size, 6, none⟩) (Rec.lt_of_cell (HX0.out.2.2.2.2.2.2.1))).trans (HX0.out.2.2.2.2.2.2.1)) (And.intro ((b6.cell (p := ⟨w.heap.size, 7, none⟩) (Rec.lt_of_cell (HX0.out.2.2.2.2.2.2.2.1))).trans (HX0.out.2.2.2.2.2.2.2.1)) (And.intro ((b6.cell (p := ⟨w.heap.size, 8, none⟩) (Rec.lt_of_cell (HX0.out.2.2.2.2.2.2.2.2.1))).trans (HX0.out.2.2.2.2.2.2.2.2.1)) ((b6.cell (p := ⟨w.heap.size, 9, none⟩) (Rec.lt_of_cell (HX0.out.2.2.2.2.2.2.2.2.2))).trans (HX0.out.2.2.2.2.2.2.2.2.2)))))))))))
  have HXu := Lib.hid (Flds.holds_below HXu.out (b6.mono (by omega)))
  have HXx := Lib.hid (Flds.holds_below HXx.out (b6.mono (by omega)))
  have HXp := Lib.hid (Pur.holds_below HXp.out (b6.mono (by omega)))
  have HZX := Lib.hid (And.intro ((b6.cell (p := ⟨x4.heap.size, 0, none⟩) (Rec.lt_of_cell (HZX.out.1))).trans (HZX.out.1)) (And.intro ((b6.cell (p := ⟨x4.heap.size, 1, none⟩) (Rec.lt_of_cell (HZX.out.2.1))).trans (HZX.out.2.1)) (And.intro ((b6.cell (p := ⟨x4.heap.size, 2, none⟩) (Rec.lt_of_cell (HZX.out.2.2.1))).trans (HZX.out.2.2.1)) (And.intro ((b6.cell (p := ⟨x4.heap.size, 3, none⟩) (Rec.lt_of_cell (HZX.out.2.2.2.1))).trans (HZX.out.2.2.2.1)) (And.intro ((b6.cell (p := ⟨x4.heap.size, 4, none⟩) (Rec.lt_of_cell (HZX.out.2.2.2.2.1))).trans (HZX.out.2.2.2.2.1)) (And.intro ((b6.cell (p := ⟨x4.heap.size, 5, none⟩) (Rec.lt_of_cell (HZX.out.2.2.2.2.2.1))).trans (HZX.out.2.2.2.2.2.1)) (And.intro ((b6.cell (p := ⟨x4.heap.size, 6, none⟩) (Rec.lt_of_cell (HZX.out.2.2.2.2.2.2.1))).trans (HZX.out.2.2.2.2.2.2.1)) (And.intro ((b6.cell (p := ⟨x4.heap.size, 7, none⟩) (Rec.lt_of_cell (HZX.out.2.2.2.2.2.2.2.1))).trans (HZX.out.2.2.2.2.2.2.2.1)) (And.intro ((b6.cell (p := ⟨x4.heap.size, 8, none⟩) (Rec.lt_of_cell (HZX.out.2.2.2.2.2.2.2.2.1))).trans (HZX.out.2.2.2.2.2.2.2.2.1)) ((b6.cell (p := ⟨x4.heap.size, 9, none⟩) (Rec.lt_of_cell (HZX.out.2.2.2.2.2.2.2.2.2))).trans (HZX.out.2.2.2.2.2.2.2.2.2)))))))))))
  have HB := Lib.hid (Base.then_below HB.out b6)
  clear b6
  have HX0 : Hid (x6.drew.cell? ⟨w.heap.size, 0, none⟩ = some (.int .i64 n0) ∧ x6.drew.cell? ⟨w.heap.size, 1, none⟩ = some (.string ⟨m0.toArray⟩) ∧ x6.drew.cell? ⟨w.heap.size, 2, none⟩ = some (.string ⟨ho0.toArray⟩) ∧ x6.drew.cell? ⟨w.heap.size, 3, none⟩ = some (.string ⟨t0.toArray⟩) ∧ x6.drew.cell? ⟨w.heap.size, 4, none⟩ = some (u0) ∧ x6.drew.cell? ⟨w.heap.size, 5, none⟩ = some (.int .i64 c0) ∧ x6.drew.cell? ⟨w.heap.size, 6, none⟩ = some (x0) ∧ x6.drew.cell? ⟨w.heap.size, 7, none⟩ = some (.string ⟨b0.toArray⟩) ∧ x6.drew.cell? ⟨w.heap.size, 8, none⟩ = some (.int .i64 a0) ∧ x6.drew.cell? ⟨w.heap.size, 9, none⟩ = some (p0)) := Lib.hid HX0.out
  have HZX : Hid (x6.drew.cell? ⟨x4.heap.size, 0, none⟩ = some (.int .i64 n0) ∧ x6.drew.cell? ⟨x4.heap.size, 1, none⟩ = some (.string ⟨m0.toArray⟩) ∧ x6.drew.cell? ⟨x4.heap.size, 2, none⟩ = some (.string ⟨ho0.toArray⟩) ∧ x6.drew.cell? ⟨x4.heap.size, 3, none⟩ = some (.string ⟨t0.toArray⟩) ∧ x6.drew.cell? ⟨x4.heap.size, 4, none⟩ = some ((.slice aXu (l0.length) cXu)) ∧ x6.drew.cell? ⟨x4.heap.size, 5, none⟩ = some (.int .i64 c0) ∧ x6.drew.cell? ⟨x4.heap.size, 6, none⟩ = some ((.slice aXx (lx0.length) cXx)) ∧ x6.drew.cell? ⟨x4.heap.size, 7, none⟩ = some (.string ⟨b0.toArray⟩) ∧ x6.drew.cell? ⟨x4.heap.size, 8, none⟩ = some (.int .i64 a0) ∧ x6.drew.cell? ⟨x4.heap.size, 9, none⟩ = some ((.slice aXp (ps0.length) cXp))) := Lib.hid HZX.out
  have HYu : Hid (Flds.Holds x6.drew w.heap.size u0 l0) := Lib.hid HYu.out
  have HXu : Hid (Flds.Holds x6.drew _ (.slice aXu (l0.length) cXu) l0) := Lib.hid HXu.out
  have HYx : Hid (Flds.Holds x6.drew w.heap.size x0 lx0) := Lib.hid HYx.out
  have HXx : Hid (Flds.Holds x6.drew _ (.slice aXx (lx0.length) cXx) lx0) := Lib.hid HXx.out
  have HYp : Hid (Pur.Holds x6.drew w.heap.size p0 ps0) := Lib.hid HYp.out
  have HXp : Hid (Pur.Holds x6.drew _ (.slice aXp (ps0.length) cXp) ps0) := Lib.hid HXp.out
  have HB := Lib.hid (Rec.below_drew HB.out)
  have hdz7 : x6.drew.heap.size = x6.heap.size := rfl
  have qhx0_0 := HX0.out.1
  have qhx0_1 := HX0.out.2.1
  have qhx0_2 := HX0.out.2.2.1
  have qhx0_3 := HX0.out.2.2.2.1
  have qhx0_4 := HX0.out.2.2.2.2.1
  have qhx0_5 := HX0.out.2.2.2.2.2.1
  have qhx0_6 := HX0.out.2.2.2.2.2.2.1
  have qhx0_7 := HX0.out.2.2.2.2.2.2.2.1
  have qhx0_8 := HX0.out.2.2.2.2.2.2.2.2.1
  have qhx0_9 := HX0.out.2.2.2.2.2.2.2.2.2
  have qhzx_0 := HZX.out.1
  have qhzx_1 := HZX.out.2.1
  have qhzx_2 := HZX.out.2.2.1
  have qhzx_3 := HZX.out.2.2.2.1
  have qhzx_4 := HZX.out.2.2.2.2.1
  have qhzx_5 := HZX.out.2.2.2.2.2.1
  have qhzx_6 := HZX.out.2.2.2.2.2.2.1
  have qhzx_7 := HZX.out.2.2.2.2.2.2.2.1
  have qhzx_8 := HZX.out.2.2.2.2.2.2.2.2.1
  have qhzx_9 := HZX.out.2.2.2.2.2.2.2.2.2
  go_wp2
  go_region_with (first | (go_at_call 9; refine (Giv.copy_giv n0 m0 ho0 t0 u0 l0 c0 x0 lx0 b0 a0 p0 ps0 w.heap.size _ HYu.out HYx.out HYp.out (by have h9 := HB.out.size; omega) HLu.out HLx.out HLp.out).mono ?_; rintro e xq ⟨vCu, vCx, vCp, rfl, oCu, oCx, oCp, bq⟩; clear qhx0_0 qhx0_1 qhx0_2 qhx0_3 qhx0_4 qhx0_5 qhx0_6 qhx0_7 qhx0_8 qhx0_9 qhzx_0 qhzx_1 qhzx_2 qhzx_3 qhzx_4 qhzx_5 qhzx_6 qhzx_7 qhzx_8 qhzx_9; have hqz := bq.size; have HX0 := Lib.hid (And.intro ((bq.cell (p := ⟨w.heap.size, 0, none⟩) (Rec.lt_of_cell (HX0.out.1))).trans (HX0.out.1)) (And.intro ((bq.cell (p := ⟨w.heap.size, 1, none⟩) (Rec.lt_of_cell (HX0.out.2.1))).trans (HX0.out.2.1)) (And.intro ((bq.cell (p := ⟨w.heap.size, 2, none⟩) (Rec.lt_of_cell (HX0.out.2.2.1))).trans (HX0.out.2.2.1)) (And.intro ((bq.cell (p := ⟨w.heap.size, 3, none⟩) (Rec.lt_of_cell (HX0.out.2.2.2.1))).trans (HX0.out.2.2.2.1)) (And.intro ((bq.cell (p := ⟨w.heap.size, 4, none⟩) (Rec.lt_of_cell (HX0.out.2.2.2.2.1))).trans (HX0.out.2.2.2.2.1)) (And.intro ((bq.cell (p := ⟨w.heap.size, 5, none⟩) (Rec.lt_of_cell (HX0.out.2.2.2.2.2.1))).trans (HX0.out.2.2.2.2.2.1)) (And.intro ((bq.cell (p := ⟨w.heap.size, 6, none⟩) (Rec.lt_of_cell (HX0.out.2.2.2.2.2.2.1))).trans (HX0.out.2.2.2.2.2.2.1)) (And.intro ((bq.cell (p := ⟨w.heap.size, 7, none⟩) (Rec.lt_of_cell (HX0.out.2.2.2.2.2.2.2.1))).trans (HX0.out.2.2.2.2.2.2.2.1)) (And.intro ((bq.cell (p := ⟨w.heap.size, 8, none⟩) (Rec.lt_of_cell (HX0.out.2.2.2.2.2.2.2.2.1))).trans (HX0.out.2.2.2.2.2.2.2.2.1)) ((bq.cell (p := ⟨w.heap.size, 9, none⟩) (Rec.lt_of_cell (HX0.out.2.2.2.2.2.2.2.2.2))).trans (HX0.out.2.2.2.2.2.2.2.2.2))))))))))); have HZX := Lib.hid (And.intro ((bq.cell (p := ⟨x4.heap.size, 0, none⟩) (Rec.lt_of_cell (HZX.out.1))).trans (HZX.out.1)) (And.intro ((bq.cell (p := ⟨x4.heap.size, 1, none⟩) (Rec.lt_of_cell (HZX.out.2.1))).trans (HZX.out.2.1)) (And.intro ((bq.cell (p := ⟨x4.heap.size, 2, none⟩) (Rec.lt_of_cell (HZX.out.2.2.1))).trans (HZX.out.2.2.1)) (And.intro ((bq.cell (p := ⟨x4.heap.size, 3, none⟩) (Rec.lt_of_cell (HZX.out.2.2.2.1))).trans (HZX.out.2.2.2.1)) (And.intro ((bq.cell (p := ⟨x4.heap.size, 4, none⟩) (Rec.lt_of_cell (HZX.out.2.2.2.2.1))).trans (HZX.out.2.2.2.2.1)) (And.intro ((bq.cell (p := ⟨x4.heap.size, 5, none⟩) (Rec.lt_of_cell (HZX.out.2.2.2.2.2.1))).trans (HZX.out.2.2.2.2.2.1)) (And.intro ((bq.cell (p := ⟨x4.heap.size, 6, none⟩) (Rec.lt_of_cell (HZX.out.2.2.2.2.2.2.1))).trans (HZX.out.2.2.2.2.2.2.1)) (And.intro ((bq.cell (p := ⟨x4.heap.size, 7, none⟩) (Rec.lt_of_cell (HZX.out.2.2.2.2.2.2.2.1))).trans (HZX.out.2.2.2.2.2.2.2.1)) (And.intro ((bq.cell (p := ⟨x4.heap.size, 8, none⟩) (Rec.lt_of_cell (HZX.out.2.2.2.2.2.2.2.2.1))).trans (HZX.out.2.2.2.2.2.2.2.2.1)) ((bq.cell (p := ⟨x4.heap.size, 9, none⟩) (Rec.lt_of_cell (HZX.out.2.2.2.2.2.2.2.2.2))).trans (HZX.out.2.2.2.2.2.2.2.2.2))))))))))); have HYu := Lib.hid (Flds.holds_below HYu.out (bq.mono (by have h9 := HB.out.size; omega))); have HXu := Lib.hid (Flds.holds_below HXu.out (bq.mono (by have h9 := HB.out.size; omega))); have HYx := Lib.hid (Flds.holds_below HYx.out (bq.mono (by have h9 := HB.out.size; omega))); have HXx := Lib.hid (Flds.holds_below HXx.out (bq.mono (by have h9 := HB.out.size; omega))); have HYp := Lib.hid (Pur.holds_below HYp.out (bq.mono (by have h9 := HB.out.size; omega))); have HXp := Lib.hid (Pur.holds_below HXp.out (bq.mono (by have h9 := HB.out.size; omega))); have HB := Lib.hid (Base.then_below HB.out bq); have HCu := Lib.hid (Flds.own_holds oCu); have HCx := Lib.hid (Flds.own_holds oCx); have HCp := Lib.hid (Pur.own_holds oCp); have qhx0_0 := HX0.out.1; have qhx0_1 := HX0.out.2.1; have qhx0_2 := HX0.out.2.2.1; have qhx0_3 := HX0.out.2.2.2.1; have qhx0_4 := HX0.out.2.2.2.2.1; have qhx0_5 := HX0.out.2.2.2.2.2.1; have qhx0_6 := HX0.out.2.2.2.2.2.2.1; have qhx0_7 := HX0.out.2.2.2.2.2.2.2.1; have qhx0_8 := HX0.out.2.2.2.2.2.2.2.2.1; have qhx0_9 := HX0.out.2.2.2.2.2.2.2.2.2; have qhzx_0 := HZX.out.1; have qhzx_1 := HZX.out.2.1; have qhzx_2 := HZX.out.2.2.1; have qhzx_3 := HZX.out.2.2.2.1; have qhzx_4 := HZX.out.2.2.2.2.1; have qhzx_5 := HZX.out.2.2.2.2.2.1; have qhzx_6 := HZX.out.2.2.2.2.2.2.1; have qhzx_7 := HZX.out.2.2.2.2.2.2.2.1; have qhzx_8 := HZX.out.2.2.2.2.2.2.2.2.1; have qhzx_9 := HZX.out.2.2.2.2.2.2.2.2.2; clear bq oCu oCx oCp) | (go_at_call 11; refine (Giv.eq_giv n0 m0 ho0 t0 (.slice aXu (l0.length) cXu) l0 c0 (.slice aXx (lx0.length) cXx) lx0 b0 a0 (.slice aXp (ps0.length) cXp) ps0 vCu vCx vCp _ _ _ HXu.out HXx.out HXp.out (by have h9 := HB.out.size; omega) HCu.out HCx.out HCp.out (by omega) HLu.out HLx.out HLp.out).mono ?_; rintro e xq ⟨rfl, bq⟩; have HB := Lib.hid (Base.then_below HB.out bq); clear bq HXu HCu HXx HCx HXp HCp qhx0_0 qhx0_1 qhx0_2 qhx0_3 qhx0_4 qhx0_5 qhx0_6 qhx0_7 qhx0_8 qhx0_9 qhzx_0 qhzx_1 qhzx_2 qhzx_3 qhzx_4 qhzx_5 qhzx_6 qhzx_7 qhzx_8 qhzx_9))
  all_goals go_wp2
  all_goals go_ret
  all_goals exact ⟨rfl, HB.out⟩

set_option maxRecDepth 1000000 in
theorem lifted (os : Os) (started : os.Started) (H : Type) (enc : TypeId × Value → H) :
    ReturnsInHanded {} Tryz.checked os 3 .any (fun w args => (Rows.fnExactIsAskedSpec.pre enc Tryz.prog Tryz.f3 [] false w args ∧ laidMetH Tryz.prog Rows.fnExactIsAskedRow.laid w) ∧ sizedMet enc Tryz.prog Tryz.f3 (OpenSpec.ofChange Rows.fnExactIsAskedSpec) false w args)
      (Rows.fnExactIsAskedSpec.post enc Tryz.prog Tryz.f3 false true false false) := by
  refine returnsInHanded_of_change_and (C := Tryz.checked) (X := fun w _ => laidMetH Tryz.prog Rows.fnExactIsAskedRow.laid w) (fun _ _ _ hh h => h.of_heap hh) own started (by kernel_rfl) Tryz.func3
    (ChangeSpec.witness_shaped (enc := enc) (C := Tryz.checked) (os := os) (X := fun w _ => laidMetH Tryz.prog Rows.fnExactIsAskedRow.laid w) false (World.laidAll Tryz.prog os Rows.fnExactIsAskedRow.laid) #[.agg #[.int .i64 0, .string ⟨#[]⟩, .string ⟨#[]⟩, .string ⟨#[]⟩, .slice none 0 0, .int .i64 0, .slice none 0 0, .string ⟨#[]⟩, .int .i64 0, .slice none 0 0]] 8 (World.laidAll_os _ _ _) (World.shaped_of_ZipB (by kernel_rfl) (by kernel_rfl)) (by kernel_rfl) (by kernel_rfl) (by kernel_rfl)
      (by rw [MakeChecks.laidMetH_plain _ _ _ (by kernel_rfl)]; exact laidMet_laidAll _ (by kernel_rfl) (by kernel_rfl))) ?_
  intro W base args ds gs before hval0 hW _ _ hL _
  have hval : ∀ (j : Nat) t v, Tryz.f3.params[j]? = some t → args[j]? = some v → Value.okWide Tryz.prog W .any base t v := hval0
  have hW' := hW
  obtain ⟨p, q, hA0, hV, rfl, hfz, hnd⟩ := hW
  have hA : DataW.TrodAll enc Tryz.prog W 0 (fun _ => true) true Tryz.f3.params.toList args.toList ds p := hA0
  rw [Tryz.params3] at hA hval
  obtain ⟨v0, vs0, d0, ds0, p0, q0, hargs, rfl, rfl, h0, r0⟩ := trodAll_cons hA
  obtain ⟨rfl, rfl, rfl⟩ := trodAll_nil r0
  obtain rfl : args = #[v0] := by cases args; simp_all
  have hgl := vars_len hV
  obtain ⟨g0, g1, g2, g3, g4, rfl⟩ : ∃ g0 g1 g2 g3 g4, gs = [g0, g1, g2, g3, g4] := match gs, hgl with | [x0, x1, x2, x3, x4], _ => ⟨x0, x1, x2, x3, x4, rfl⟩
  have k0 := h0
  obtain ⟨n0_, m0_, ho0_, t0_, u0_, l0_, c0_, x0_, lx0_, b0_, a0_, p0_, ps0_, rfl, y0_0, y0_1, y0_2, w0⟩ := Giv.open_giv (hval 0 29 v0 rfl rfl) h0
  have y0 := And.intro y0_0 (And.intro y0_1 y0_2)
  clear hA0 hval0
  simp only [List.append_nil] at hW'
  have hL' : laidMet Tryz.prog Rows.fnExactIsAskedRow.laid W := by rw [← MakeChecks.laidMetH_plain _ _ _ (by kernel_rfl)]; exact hL
  refine (walk n0_ m0_ ho0_ t0_ u0_ l0_ c0_ x0_ lx0_ b0_ a0_ p0_ ps0_ w0 W y0 ⟨Laid.mds hL' (by simp [Rows.fnExactIsAskedRow]), Dt.laid_names hL' (by simp [Rows.fnExactIsAskedRow]) (by simp [Rows.fnExactIsAskedRow]), Laid.tens hL' (by simp [Rows.fnExactIsAskedRow])⟩ (Laid.errs hL' (by simp [Rows.fnExactIsAskedRow]) (by simp [Rows.fnExactIsAskedRow])) (Dir.laid_errs hL' (by simp [Rows.fnExactIsAskedRow]) (by simp [Rows.fnExactIsAskedRow]))).mono fun e W' ⟨he, hb⟩ => ?_
  subst he
  exact ⟨_, rfl, ⟨_, _, _, [], _, _, hW', (trodAll_cons_mk (shut_bool Tryz.underlying4 _) trodAll_mk0), (trodAll_cons_mk (Below.trod laidOut (by kernel_rfl) (of_decide_eq_true (by kernel_rfl)) k0 hb (fun x hx => hW'.lt x (by simp [hx]))) trodAll_mk0), Below.trodVars laidOut hb (by kernel_rfl) hV, hb.frame _, fun h => by cases h⟩⟩

theorem over : Rows.fnExactIsAskedRow.holds Tryz.pinned (OpenSpec.ofChange Rows.fnExactIsAskedSpec) :=
  OpenClaim.holds_of_wide 3 Tryz.f3 rfl rfl rfl rfl rfl rfl rfl ⟨rfl, rfl, rfl, rfl, rfl⟩ rfl rfl rfl rfl rfl (by kernel_rfl) Tryz.func3 (by kernel_rfl)
    (of_decide_eq_true (by kernel_rfl)) (by unfold Func.isWrapper; first | (rw [if_pos (by decide +kernel)]; kernel_rfl) | (rw [if_neg (by decide +kernel)]; exact ⟨rfl, rfl⟩))
    (fun os started H enc _ => lifted os started H enc)

/-- The given statement: the law's card, tied. -/
theorem proved : Rows.FnExactIsAskedCardSaid :=
  Claim7.holds_tied_plain_at .later [] _ true _ _
    over (fun _ h => by cases h) (by kernel_rfl) (fun _ h => by cases h) fnExactIsAsked_row_tie rfl ⟨rfl, rfl⟩ (by kernel_rfl) rfl
    (fun f fn hf hfn => by
      obtain rfl : f = 3 := Option.some.inj ((show Tryz.prog.funcNamed "loop.example/g03012/laws.FnExactIsAsked" = some 3 by kernel_rfl).symm.trans hf) |>.symm
      obtain rfl : fn = Tryz.f3 := (Option.some.inj (Tryz.func3.symm.trans hfn)).symm
      exact ⟨by kernel_rfl, fun j t ht => by
        rw [Tryz.params3] at ht
        have hm : t ∈ [29] := by simpa using Array.mem_of_getElem? ht
        have hall : ([29].all fun u => !Tryz.prog.wantsStandIn u) = true := by kernel_rfl
        exact (show Tryz.prog.wantsStandIn t = false by simpa using List.all_eq_true.1 hall t hm)⟩)
    (by kernel_rfl)
#print axioms proved
end Go.Proofs.YtjeihicjfgimdaaGreatDoor.fnExactIsAsked
