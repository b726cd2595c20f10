/-
  PROVED: at any request, response, age and lifetime the program's PlanFor returns what its model returns and writes into no argument: the exact law of PlanFor returns true and leaves its arguments as they were. CONDITION: the program's two errors of directives read as their texts lay them, the other listed variables as pinned (the card ties them to the text of the pruned project).
-/
import Derived.Test.YtddpfhcmifnagaaGreatDoorPartA
import Derived.Carry
import Derived.Test.YtddpfhcmifnagaaGreatDoorPartD
import Derived.Test.YtddpfhcmifnagaaGreatDoorPartE
import Derived.Test.YtddpfhcmifnagaaGreatDoorPartAM
import Derived.Test.YtddpfhcmifnagaaGreatDoorPartAO
import Derived.Test.YtddpfhcmifnagaaGreatDoorPartAB
import Derived.Test.YtddpfhcmifnagaaGreatDoorTie
import Derived.Test.YtddpfhcmifnagaaGreatDoorCards
import Derived.LaidMore
import Derived.Lay
import Derived.OpenVars
import Derived.Stop.LaidErr
import Derived.Deep.DeepCutAuto
import Derived.RegionTactic
namespace Go.Proofs.YtddpfhcmifnagaaGreatDoor.fnExactPlanFor
open Go.ChangeShapes Go.WideShapes Go.ChangeAt Go.RowKit
set_option linter.unusedVariables false
set_option maxRecDepth 1000000

theorem own : ownKnob Tryz.prog.godebug = none := by kernel_rfl

theorem vars_len {H : Type} {enc : TypeId × Value → H} {P : Program} {w : World} {sp : Nat → Bool} : ∀ {ns : List String} {gs : List (DataW H)} {ps : List MemPlace}, DataW.TrodVars enc P w sp ns gs ps → gs.length = ns.length
  | [], [], _, _ => rfl
  | [], _ :: _, _, h => h.elim
  | _ :: _, [], _, h => h.elim
  | _ :: ns, _ :: gs, _, ⟨_, _, _, _, _, _, _, _, _, _, h, _⟩ => congrArg Nat.succ (vars_len h)

theorem laidOut : laidOutB Tryz.prog = true := by kernel_rfl

set_option maxHeartbeats 4000000 in
theorem walk (m0 : List UInt8) (h0 : List UInt8) (t0 : List UInt8) (u0 : Value) (l0 : List Msg.F) (c1 : Int) (u1 : Value) (l1 : List Msg.F) (b1 : List UInt8) (a2 : Int) (a3 : Int) (w0 : Msg.Ok_req m0 h0 t0 l0) (w1 : Msg.Ok_rsp c1 l1 b1) (w2 : (Lit.int .i64 a2).wf = true) (w3 : (Lit.int .i64 a3).wf = true) (w : World) (y0 : Flds.Holds w w.heap.size u0 l0) (y1 : Flds.Holds w w.heap.size u1 l1) (her : Dir.Errs w) :
    Calls Tryz.prog 4 #[.agg #[.string ⟨m0.toArray⟩, .string ⟨h0.toArray⟩, .string ⟨t0.toArray⟩, u0], .agg #[.int .i64 c1, u1, .string ⟨b1.toArray⟩], .int .i64 a2, .int .i64 a3] w fun e w' => e = .returned (.bool true) ∧ Below w.heap.size w w' := by
  have HW0 := Lib.hid w0
  have HY0 := Lib.hid y0
  clear w0 y0
  have HW1 := Lib.hid w1
  have HY1 := Lib.hid y1
  clear w1 y1
  have HER := Lib.hid her
  clear her
  have HB0' : Below w.heap.size w (w.alloc (.cells #[.string ⟨m0.toArray⟩, .string ⟨h0.toArray⟩, .string ⟨t0.toArray⟩, u0] 24)) := ((Below.refl w.heap.size w)).alloc (by simp) (.cells #[.string ⟨m0.toArray⟩, .string ⟨h0.toArray⟩, .string ⟨t0.toArray⟩, u0] 24)
  have hz0' : w.heap.size < (w.alloc (.cells #[.string ⟨m0.toArray⟩, .string ⟨h0.toArray⟩, .string ⟨t0.toArray⟩, u0] 24)).heap.size := by simp
  have HX0 : Hid ((w.alloc (.cells #[.string ⟨m0.toArray⟩, .string ⟨h0.toArray⟩, .string ⟨t0.toArray⟩, u0] 24)).cell? ⟨w.heap.size, 0, none⟩ = some (.string ⟨m0.toArray⟩) ∧ (w.alloc (.cells #[.string ⟨m0.toArray⟩, .string ⟨h0.toArray⟩, .string ⟨t0.toArray⟩, u0] 24)).cell? ⟨w.heap.size, 1, none⟩ = some (.string ⟨h0.toArray⟩) ∧ (w.alloc (.cells #[.string ⟨m0.toArray⟩, .string ⟨h0.toArray⟩, .string ⟨t0.toArray⟩, u0] 24)).cell? ⟨w.heap.size, 2, none⟩ = some (.string ⟨t0.toArray⟩) ∧ (w.alloc (.cells #[.string ⟨m0.toArray⟩, .string ⟨h0.toArray⟩, .string ⟨t0.toArray⟩, u0] 24)).cell? ⟨w.heap.size, 3, none⟩ = some (u0)) := Lib.hid ⟨by rw [World.cell?_alloc_new]; rfl, by rw [World.cell?_alloc_new]; rfl, by rw [World.cell?_alloc_new]; rfl, by rw [World.cell?_alloc_new]; rfl⟩
  have HB1' : Below w.heap.size w ((w.alloc (.cells #[.string ⟨m0.toArray⟩, .string ⟨h0.toArray⟩, .string ⟨t0.toArray⟩, u0] 24)).alloc (.cells #[.int .i64 c1, u1, .string ⟨b1.toArray⟩] 26)) := (HB0').alloc (by simp) (.cells #[.int .i64 c1, u1, .string ⟨b1.toArray⟩] 26)
  have hz1' : (w.heap.size + 1) < ((w.alloc (.cells #[.string ⟨m0.toArray⟩, .string ⟨h0.toArray⟩, .string ⟨t0.toArray⟩, u0] 24)).alloc (.cells #[.int .i64 c1, u1, .string ⟨b1.toArray⟩] 26)).heap.size := by simp
  have HX0 := Lib.hid (And.intro ((((Below.refl (w.alloc (.cells #[.string ⟨m0.toArray⟩, .string ⟨h0.toArray⟩, .string ⟨t0.toArray⟩, u0] 24)).heap.size (w.alloc (.cells #[.string ⟨m0.toArray⟩, .string ⟨h0.toArray⟩, .string ⟨t0.toArray⟩, u0] 24))).alloc (Nat.le_refl _) (.cells #[.int .i64 c1, u1, .string ⟨b1.toArray⟩] 26)).cell (p := ⟨w.heap.size, 0, none⟩) (by simp)).trans (HX0.out.1)) (And.intro ((((Below.refl (w.alloc (.cells #[.string ⟨m0.toArray⟩, .string ⟨h0.toArray⟩, .string ⟨t0.toArray⟩, u0] 24)).heap.size (w.alloc (.cells #[.string ⟨m0.toArray⟩, .string ⟨h0.toArray⟩, .string ⟨t0.toArray⟩, u0] 24))).alloc (Nat.le_refl _) (.cells #[.int .i64 c1, u1, .string ⟨b1.toArray⟩] 26)).cell (p := ⟨w.heap.size, 1, none⟩) (by simp)).trans (HX0.out.2.1)) (And.intro ((((Below.refl (w.alloc (.cells #[.string ⟨m0.toArray⟩, .string ⟨h0.toArray⟩, .string ⟨t0.toArray⟩, u0] 24)).heap.size (w.alloc (.cells #[.string ⟨m0.toArray⟩, .string ⟨h0.toArray⟩, .string ⟨t0.toArray⟩, u0] 24))).alloc (Nat.le_refl _) (.cells #[.int .i64 c1, u1, .string ⟨b1.toArray⟩] 26)).cell (p := ⟨w.heap.size, 2, none⟩) (by simp)).trans (HX0.out.2.2.1)) ((((Below.refl (w.alloc (.cells #[.string ⟨m0.toArray⟩, .string ⟨h0.toArray⟩, .string ⟨t0.toArray⟩, u0] 24)).heap.size (w.alloc (.cells #[.string ⟨m0.toArray⟩, .string ⟨h0.toArray⟩, .string ⟨t0.toArray⟩, u0] 24))).alloc (Nat.le_refl _) (.cells #[.int .i64 c1, u1, .string ⟨b1.toArray⟩] 26)).cell (p := ⟨w.heap.size, 3, none⟩) (by simp)).trans (HX0.out.2.2.2)))))
  have HX1 : Hid (((w.alloc (.cells #[.string ⟨m0.toArray⟩, .string ⟨h0.toArray⟩, .string ⟨t0.toArray⟩, u0] 24)).alloc (.cells #[.int .i64 c1, u1, .string ⟨b1.toArray⟩] 26)).cell? ⟨(w.heap.size + 1), 0, none⟩ = some (.int .i64 c1) ∧ ((w.alloc (.cells #[.string ⟨m0.toArray⟩, .string ⟨h0.toArray⟩, .string ⟨t0.toArray⟩, u0] 24)).alloc (.cells #[.int .i64 c1, u1, .string ⟨b1.toArray⟩] 26)).cell? ⟨(w.heap.size + 1), 1, none⟩ = some (u1) ∧ ((w.alloc (.cells #[.string ⟨m0.toArray⟩, .string ⟨h0.toArray⟩, .string ⟨t0.toArray⟩, u0] 24)).alloc (.cells #[.int .i64 c1, u1, .string ⟨b1.toArray⟩] 26)).cell? ⟨(w.heap.size + 1), 2, none⟩ = some (.string ⟨b1.toArray⟩)) := Lib.hid ⟨by rw [World.cell?_alloc_at _ _ _ _ (by simp)]; rfl, by rw [World.cell?_alloc_at _ _ _ _ (by simp)]; rfl, by rw [World.cell?_alloc_at _ _ _ _ (by simp)]; rfl⟩
  have HB := Lib.hid HB1'
  have HY0 := Lib.hid (Flds.holds_below HY0.out (HB.out.mono (Nat.le_refl _)))
  have HY1 := Lib.hid (Flds.holds_below HY1.out (HB.out.mono (Nat.le_refl _)))
  have hszw := HB.out.size
  clear HB0' HB1'
  go_enter Tryz.func4, Tryz.ntmps4
  have HX0o := HX0.out
  obtain ⟨hx0_0, hx0_1, hx0_2, hx0_3⟩ := HX0o
  go_wp2_with (fail)
  go_at_call 6
  refine (Msg.size_req m0 h0 t0 u0 l0 _ w.heap.size _ HY0.out (by omega) HW0.out (by decide) (by decide)).mono ?_
  rintro e x1 ⟨z_0, rfl, hz0, b1⟩
  have hs1 := b1.size
  clear hx0_0 hx0_1 hx0_2 hx0_3
  have HX0 := Lib.hid (And.intro ((b1.cell (p := ⟨w.heap.size, 0, none⟩) (Rec.lt_of_cell (HX0.out.1))).trans (HX0.out.1)) (And.intro ((b1.cell (p := ⟨w.heap.size, 1, none⟩) (Rec.lt_of_cell (HX0.out.2.1))).trans (HX0.out.2.1)) (And.intro ((b1.cell (p := ⟨w.heap.size, 2, none⟩) (Rec.lt_of_cell (HX0.out.2.2.1))).trans (HX0.out.2.2.1)) ((b1.cell (p := ⟨w.heap.size, 3, none⟩) (Rec.lt_of_cell (HX0.out.2.2.2))).trans (HX0.out.2.2.2)))))
  have HX1 := Lib.hid (And.intro ((b1.cell (p := ⟨(w.heap.size + 1), 0, none⟩) (Rec.lt_of_cell (HX1.out.1))).trans (HX1.out.1)) (And.intro ((b1.cell (p := ⟨(w.heap.size + 1), 1, none⟩) (Rec.lt_of_cell (HX1.out.2.1))).trans (HX1.out.2.1)) ((b1.cell (p := ⟨(w.heap.size + 1), 2, none⟩) (Rec.lt_of_cell (HX1.out.2.2))).trans (HX1.out.2.2))))
  have HY0 := Lib.hid (Flds.holds_below HY0.out (b1.mono (by omega)))
  have HY1 := Lib.hid (Flds.holds_below HY1.out (b1.mono (by omega)))
  have HB := Lib.hid (Base.then_below HB.out b1)
  clear b1
  rcases hz0 with hz0 | ⟨hz0, ht0⟩
  · go_wp2
    go_ret
    exact ⟨rfl, HB.out⟩
  have hzn0 : ¬ z_0 < 0 := by omega
  have HZ0 : Hid (z_0 + (((Flds.total l0 + m0.length + h0.length + t0.length) : Nat) : Int) = 1048576) := Lib.hid (by omega)
  clear ht0
  have HX1o := HX1.out
  obtain ⟨hx1_0, hx1_1, hx1_2⟩ := HX1o
  go_wp2_with (fail)
  go_at_call 7
  refine (Msg.size_rsp c1 u1 l1 b1 z_0 w.heap.size _ HY1.out (by omega) HW1.out hz0 (by have := HZ0.out; omega)).mono ?_
  rintro e x2 ⟨z_1, rfl, hz1, b2⟩
  have hs2 := b2.size
  clear hx1_0 hx1_1 hx1_2
  have HX0 := Lib.hid (And.intro ((b2.cell (p := ⟨w.heap.size, 0, none⟩) (Rec.lt_of_cell (HX0.out.1))).trans (HX0.out.1)) (And.intro ((b2.cell (p := ⟨w.heap.size, 1, none⟩) (Rec.lt_of_cell (HX0.out.2.1))).trans (HX0.out.2.1)) (And.intro ((b2.cell (p := ⟨w.heap.size, 2, none⟩) (Rec.lt_of_cell (HX0.out.2.2.1))).trans (HX0.out.2.2.1)) ((b2.cell (p := ⟨w.heap.size, 3, none⟩) (Rec.lt_of_cell (HX0.out.2.2.2))).trans (HX0.out.2.2.2)))))
  have HX1 := Lib.hid (And.intro ((b2.cell (p := ⟨(w.heap.size + 1), 0, none⟩) (Rec.lt_of_cell (HX1.out.1))).trans (HX1.out.1)) (And.intro ((b2.cell (p := ⟨(w.heap.size + 1), 1, none⟩) (Rec.lt_of_cell (HX1.out.2.1))).trans (HX1.out.2.1)) ((b2.cell (p := ⟨(w.heap.size + 1), 2, none⟩) (Rec.lt_of_cell (HX1.out.2.2))).trans (HX1.out.2.2))))
  have HY0 := Lib.hid (Flds.holds_below HY0.out (b2.mono (by omega)))
  have HY1 := Lib.hid (Flds.holds_below HY1.out (b2.mono (by omega)))
  have HB := Lib.hid (Base.then_below HB.out b2)
  clear b2
  rcases hz1 with hz1 | ⟨hz1, ht1⟩
  · go_wp2
    go_ret
    exact ⟨rfl, HB.out⟩
  have hzn1 : ¬ z_1 < 0 := by omega
  have HZ1 : Hid (z_1 + (((Flds.total l0 + m0.length + h0.length + t0.length) + (Flds.total l1 + b1.length) : Nat) : Int) = 1048576) := Lib.hid (by have := HZ0.out; omega)
  clear ht1
  have HT0 : Hid (Flds.total l0 + m0.length + h0.length + t0.length ≤ 1048576) := Lib.hid (by have := HZ1.out; omega)
  have HL0 : Hid (l0.length ≤ 1048576) := Lib.hid (by have := HT0.out; unfold Flds.total at this; omega)
  have HT1 : Hid (Flds.total l1 + b1.length ≤ 1048576) := Lib.hid (by have := HZ1.out; omega)
  have HL1 : Hid (l1.length ≤ 1048576) := Lib.hid (by have := HT1.out; unfold Flds.total at this; omega)
  obtain ⟨r, hr⟩ : ∃ z, z = Srv.plan (Lif.rules l0) (Lif.rules l1) a2 a3 := ⟨_, rfl⟩
  have HGr := Lib.hid hr
  clear hr
  go_upto_region 8 with fail
  go_cut [10] (fun s10 wx => s10 = .int .i64 r ∧ Hid (wx.cell? ⟨w.heap.size, 0, none⟩ = some (.string ⟨m0.toArray⟩) ∧ wx.cell? ⟨w.heap.size, 1, none⟩ = some (.string ⟨h0.toArray⟩) ∧ wx.cell? ⟨w.heap.size, 2, none⟩ = some (.string ⟨t0.toArray⟩) ∧ wx.cell? ⟨w.heap.size, 3, none⟩ = some (u0)) ∧ Hid (wx.cell? ⟨(w.heap.size + 1), 0, none⟩ = some (.int .i64 c1) ∧ wx.cell? ⟨(w.heap.size + 1), 1, none⟩ = some (u1) ∧ wx.cell? ⟨(w.heap.size + 1), 2, none⟩ = some (.string ⟨b1.toArray⟩)) ∧ Hid (Flds.Holds wx w.heap.size u0 l0) ∧ Hid (Flds.Holds wx w.heap.size u1 l1) ∧ Hid (Below w.heap.size w wx))
  case first =>
    have HX0 : Hid (x2.drew.cell? ⟨w.heap.size, 0, none⟩ = some (.string ⟨m0.toArray⟩) ∧ x2.drew.cell? ⟨w.heap.size, 1, none⟩ = some (.string ⟨h0.toArray⟩) ∧ x2.drew.cell? ⟨w.heap.size, 2, none⟩ = some (.string ⟨t0.toArray⟩) ∧ x2.drew.cell? ⟨w.heap.size, 3, none⟩ = some (u0)) := Lib.hid HX0.out
    have HX1 : Hid (x2.drew.cell? ⟨(w.heap.size + 1), 0, none⟩ = some (.int .i64 c1) ∧ x2.drew.cell? ⟨(w.heap.size + 1), 1, none⟩ = some (u1) ∧ x2.drew.cell? ⟨(w.heap.size + 1), 2, none⟩ = some (.string ⟨b1.toArray⟩)) := Lib.hid HX1.out
    have HY0 := Lib.hid (Msg.flds_drew HY0.out)
    have HY1 := Lib.hid (Msg.flds_drew HY1.out)
    have HB := Lib.hid (Rec.below_drew HB.out)
    have hdz3 : x2.drew.heap.size = x2.heap.size := rfl
    have qhx0_0 := HX0.out.1
    have qhx0_1 := HX0.out.2.1
    have qhx0_2 := HX0.out.2.2.1
    have qhx0_3 := HX0.out.2.2.2
    have qhx1_0 := HX1.out.1
    have qhx1_1 := HX1.out.2.1
    have qhx1_2 := HX1.out.2.2
    go_region_with (first | (go_at_call 9; (with_reducible refine (Msg.copy_req m0 h0 t0 u0 l0 w.heap.size _ HY0.out (by have h9 := HB.out.size; omega) HL0.out).mono ?_); rintro e xq0 ⟨vA0, rfl, oA0, bq⟩; clear qhx0_0 qhx0_1 qhx0_2 qhx0_3 qhx1_0 qhx1_1 qhx1_2; have hqz := bq.size; have HX0 := Lib.hid (And.intro ((bq.cell (p := ⟨w.heap.size, 0, none⟩) (Rec.lt_of_cell (HX0.out.1))).trans (HX0.out.1)) (And.intro ((bq.cell (p := ⟨w.heap.size, 1, none⟩) (Rec.lt_of_cell (HX0.out.2.1))).trans (HX0.out.2.1)) (And.intro ((bq.cell (p := ⟨w.heap.size, 2, none⟩) (Rec.lt_of_cell (HX0.out.2.2.1))).trans (HX0.out.2.2.1)) ((bq.cell (p := ⟨w.heap.size, 3, none⟩) (Rec.lt_of_cell (HX0.out.2.2.2))).trans (HX0.out.2.2.2))))); have HX1 := Lib.hid (And.intro ((bq.cell (p := ⟨(w.heap.size + 1), 0, none⟩) (Rec.lt_of_cell (HX1.out.1))).trans (HX1.out.1)) (And.intro ((bq.cell (p := ⟨(w.heap.size + 1), 1, none⟩) (Rec.lt_of_cell (HX1.out.2.1))).trans (HX1.out.2.1)) ((bq.cell (p := ⟨(w.heap.size + 1), 2, none⟩) (Rec.lt_of_cell (HX1.out.2.2))).trans (HX1.out.2.2)))); have HY0 := Lib.hid (Flds.holds_below HY0.out (bq.mono (by have h9 := HB.out.size; omega))); have HY1 := Lib.hid (Flds.holds_below HY1.out (bq.mono (by have h9 := HB.out.size; omega))); (try (have HA1 := Lib.hid (Flds.holds_more (Flds.holds_below HA1.out bq) bq.size))); have HB := Lib.hid (Base.then_below HB.out bq); have HA0 := Lib.hid (Flds.own_holds oA0); have qhx0_0 := HX0.out.1; have qhx0_1 := HX0.out.2.1; have qhx0_2 := HX0.out.2.2.1; have qhx0_3 := HX0.out.2.2.2; have qhx1_0 := HX1.out.1; have qhx1_1 := HX1.out.2.1; have qhx1_2 := HX1.out.2.2; clear bq oA0) | (go_at_call 10; (with_reducible refine (Msg.copy_rsp c1 u1 l1 b1 w.heap.size _ HY1.out (by have h9 := HB.out.size; omega) HL1.out).mono ?_); rintro e xq1 ⟨vA1, rfl, oA1, bq⟩; clear qhx0_0 qhx0_1 qhx0_2 qhx0_3 qhx1_0 qhx1_1 qhx1_2; have hqz := bq.size; have HX0 := Lib.hid (And.intro ((bq.cell (p := ⟨w.heap.size, 0, none⟩) (Rec.lt_of_cell (HX0.out.1))).trans (HX0.out.1)) (And.intro ((bq.cell (p := ⟨w.heap.size, 1, none⟩) (Rec.lt_of_cell (HX0.out.2.1))).trans (HX0.out.2.1)) (And.intro ((bq.cell (p := ⟨w.heap.size, 2, none⟩) (Rec.lt_of_cell (HX0.out.2.2.1))).trans (HX0.out.2.2.1)) ((bq.cell (p := ⟨w.heap.size, 3, none⟩) (Rec.lt_of_cell (HX0.out.2.2.2))).trans (HX0.out.2.2.2))))); have HX1 := Lib.hid (And.intro ((bq.cell (p := ⟨(w.heap.size + 1), 0, none⟩) (Rec.lt_of_cell (HX1.out.1))).trans (HX1.out.1)) (And.intro ((bq.cell (p := ⟨(w.heap.size + 1), 1, none⟩) (Rec.lt_of_cell (HX1.out.2.1))).trans (HX1.out.2.1)) ((bq.cell (p := ⟨(w.heap.size + 1), 2, none⟩) (Rec.lt_of_cell (HX1.out.2.2))).trans (HX1.out.2.2)))); have HY0 := Lib.hid (Flds.holds_below HY0.out (bq.mono (by have h9 := HB.out.size; omega))); have HY1 := Lib.hid (Flds.holds_below HY1.out (bq.mono (by have h9 := HB.out.size; omega))); (try (have HA0 := Lib.hid (Flds.holds_more (Flds.holds_below HA0.out bq) bq.size))); have HB := Lib.hid (Base.then_below HB.out bq); have HA1 := Lib.hid (Flds.own_holds oA1); have qhx0_0 := HX0.out.1; have qhx0_1 := HX0.out.2.1; have qhx0_2 := HX0.out.2.2.1; have qhx0_3 := HX0.out.2.2.2; have qhx1_0 := HX1.out.1; have qhx1_1 := HX1.out.2.1; have qhx1_2 := HX1.out.2.2; clear bq oA1) | (go_at_call 14; refine (Srv.spec_plan m0 h0 t0 vA0 l0 c1 vA1 l1 b1 a2 a3 _ _ (Flds.holds_more HA0.out (by omega)) HA1.out (by omega) (by have := HT0.out; omega) (by have := HT1.out; omega) (Dir.errs_below HER.out HB.out)).mono ?_; rintro e xs ⟨he, bq⟩; rw [← HGr.out] at he; subst he; have hqz := bq.size; have HX0 := Lib.hid (And.intro ((bq.cell (p := ⟨w.heap.size, 0, none⟩) (Rec.lt_of_cell (HX0.out.1))).trans (HX0.out.1)) (And.intro ((bq.cell (p := ⟨w.heap.size, 1, none⟩) (Rec.lt_of_cell (HX0.out.2.1))).trans (HX0.out.2.1)) (And.intro ((bq.cell (p := ⟨w.heap.size, 2, none⟩) (Rec.lt_of_cell (HX0.out.2.2.1))).trans (HX0.out.2.2.1)) ((bq.cell (p := ⟨w.heap.size, 3, none⟩) (Rec.lt_of_cell (HX0.out.2.2.2))).trans (HX0.out.2.2.2))))); have HX1 := Lib.hid (And.intro ((bq.cell (p := ⟨(w.heap.size + 1), 0, none⟩) (Rec.lt_of_cell (HX1.out.1))).trans (HX1.out.1)) (And.intro ((bq.cell (p := ⟨(w.heap.size + 1), 1, none⟩) (Rec.lt_of_cell (HX1.out.2.1))).trans (HX1.out.2.1)) ((bq.cell (p := ⟨(w.heap.size + 1), 2, none⟩) (Rec.lt_of_cell (HX1.out.2.2))).trans (HX1.out.2.2)))); have HY0 := Lib.hid (Flds.holds_below HY0.out (bq.mono (by have h9 := HB.out.size; omega))); have HY1 := Lib.hid (Flds.holds_below HY1.out (bq.mono (by have h9 := HB.out.size; omega))); have HB := Lib.hid (Base.then_below HB.out bq); clear bq HA0 HA1 qhx0_0 qhx0_1 qhx0_2 qhx0_3 qhx1_0 qhx1_1 qhx1_2))
    all_goals (go_wp2_with fail; go_meet; exact ⟨rfl, HX0, HX1, HY0, HY1, HB⟩)
  case rest =>
    obtain ⟨rfl, HX0, HX1, HY0, HY1, HB⟩ := hcut
    have hsr3 := HB.out.size
    have HX0o := HX0.out
    obtain ⟨hx0_0, hx0_1, hx0_2, hx0_3⟩ := HX0o
    go_wp2_with (fail)
    go_at_call 9
    refine (Msg.copy_req m0 h0 t0 u0 l0 w.heap.size _ HY0.out (by have h9 := HB.out.size; omega) HL0.out).mono ?_
    rintro e x4 ⟨vX0_, rfl, oX0_, b4⟩
    have hs4 := b4.size
    obtain ⟨aX0_, cpX0_, rfl, _⟩ := Rec.shape_at oX0_
    clear hx0_0 hx0_1 hx0_2 hx0_3
    have HX0 := Lib.hid (And.intro ((b4.cell (p := ⟨w.heap.size, 0, none⟩) (Rec.lt_of_cell (HX0.out.1))).trans (HX0.out.1)) (And.intro ((b4.cell (p := ⟨w.heap.size, 1, none⟩) (Rec.lt_of_cell (HX0.out.2.1))).trans (HX0.out.2.1)) (And.intro ((b4.cell (p := ⟨w.heap.size, 2, none⟩) (Rec.lt_of_cell (HX0.out.2.2.1))).trans (HX0.out.2.2.1)) ((b4.cell (p := ⟨w.heap.size, 3, none⟩) (Rec.lt_of_cell (HX0.out.2.2.2))).trans (HX0.out.2.2.2)))))
    have HX1 := Lib.hid (And.intro ((b4.cell (p := ⟨(w.heap.size + 1), 0, none⟩) (Rec.lt_of_cell (HX1.out.1))).trans (HX1.out.1)) (And.intro ((b4.cell (p := ⟨(w.heap.size + 1), 1, none⟩) (Rec.lt_of_cell (HX1.out.2.1))).trans (HX1.out.2.1)) ((b4.cell (p := ⟨(w.heap.size + 1), 2, none⟩) (Rec.lt_of_cell (HX1.out.2.2))).trans (HX1.out.2.2))))
    have HY0 := Lib.hid (Flds.holds_below HY0.out (b4.mono (by omega)))
    have HY1 := Lib.hid (Flds.holds_below HY1.out (b4.mono (by omega)))
    have HB := Lib.hid (Base.then_below HB.out b4)
    clear b4
    have HX0_ := Lib.hid (Flds.own_holds oX0_)
    clear oX0_
    have hsa5 : (x4.alloc (.cells #[.string ⟨m0.toArray⟩, .string ⟨h0.toArray⟩, .string ⟨t0.toArray⟩, (.slice aX0_ l0.length cpX0_)] 32)).heap.size = x4.heap.size + 1 := by simp
    have HX0 := Lib.hid (And.intro ((((Below.refl x4.heap.size x4).alloc (Nat.le_refl _) (.cells #[.string ⟨m0.toArray⟩, .string ⟨h0.toArray⟩, .string ⟨t0.toArray⟩, (.slice aX0_ l0.length cpX0_)] 32)).cell (p := ⟨w.heap.size, 0, none⟩) (Rec.lt_of_cell (HX0.out.1))).trans (HX0.out.1)) (And.intro ((((Below.refl x4.heap.size x4).alloc (Nat.le_refl _) (.cells #[.string ⟨m0.toArray⟩, .string ⟨h0.toArray⟩, .string ⟨t0.toArray⟩, (.slice aX0_ l0.length cpX0_)] 32)).cell (p := ⟨w.heap.size, 1, none⟩) (Rec.lt_of_cell (HX0.out.2.1))).trans (HX0.out.2.1)) (And.intro ((((Below.refl x4.heap.size x4).alloc (Nat.le_refl _) (.cells #[.string ⟨m0.toArray⟩, .string ⟨h0.toArray⟩, .string ⟨t0.toArray⟩, (.slice aX0_ l0.length cpX0_)] 32)).cell (p := ⟨w.heap.size, 2, none⟩) (Rec.lt_of_cell (HX0.out.2.2.1))).trans (HX0.out.2.2.1)) ((((Below.refl x4.heap.size x4).alloc (Nat.le_refl _) (.cells #[.string ⟨m0.toArray⟩, .string ⟨h0.toArray⟩, .string ⟨t0.toArray⟩, (.slice aX0_ l0.length cpX0_)] 32)).cell (p := ⟨w.heap.size, 3, none⟩) (Rec.lt_of_cell (HX0.out.2.2.2))).trans (HX0.out.2.2.2)))))
    have HX1 := Lib.hid (And.intro ((((Below.refl x4.heap.size x4).alloc (Nat.le_refl _) (.cells #[.string ⟨m0.toArray⟩, .string ⟨h0.toArray⟩, .string ⟨t0.toArray⟩, (.slice aX0_ l0.length cpX0_)] 32)).cell (p := ⟨(w.heap.size + 1), 0, none⟩) (Rec.lt_of_cell (HX1.out.1))).trans (HX1.out.1)) (And.intro ((((Below.refl x4.heap.size x4).alloc (Nat.le_refl _) (.cells #[.string ⟨m0.toArray⟩, .string ⟨h0.toArray⟩, .string ⟨t0.toArray⟩, (.slice aX0_ l0.length cpX0_)] 32)).cell (p := ⟨(w.heap.size + 1), 1, none⟩) (Rec.lt_of_cell (HX1.out.2.1))).trans (HX1.out.2.1)) ((((Below.refl x4.heap.size x4).alloc (Nat.le_refl _) (.cells #[.string ⟨m0.toArray⟩, .string ⟨h0.toArray⟩, .string ⟨t0.toArray⟩, (.slice aX0_ l0.length cpX0_)] 32)).cell (p := ⟨(w.heap.size + 1), 2, none⟩) (Rec.lt_of_cell (HX1.out.2.2))).trans (HX1.out.2.2))))
    have HY0 := Lib.hid (Flds.holds_below HY0.out (((Below.refl x4.heap.size x4).alloc (Nat.le_refl _) (.cells #[.string ⟨m0.toArray⟩, .string ⟨h0.toArray⟩, .string ⟨t0.toArray⟩, (.slice aX0_ l0.length cpX0_)] 32)).mono (by omega)))
    have HY1 := Lib.hid (Flds.holds_below HY1.out (((Below.refl x4.heap.size x4).alloc (Nat.le_refl _) (.cells #[.string ⟨m0.toArray⟩, .string ⟨h0.toArray⟩, .string ⟨t0.toArray⟩, (.slice aX0_ l0.length cpX0_)] 32)).mono (by omega)))
    have HX0_ := Lib.hid (Flds.holds_below HX0_.out (((Below.refl x4.heap.size x4).alloc (Nat.le_refl _) (.cells #[.string ⟨m0.toArray⟩, .string ⟨h0.toArray⟩, .string ⟨t0.toArray⟩, (.slice aX0_ l0.length cpX0_)] 32)).mono (by omega)))
    have HB := Lib.hid (HB.out.alloc HB.out.size (.cells #[.string ⟨m0.toArray⟩, .string ⟨h0.toArray⟩, .string ⟨t0.toArray⟩, (.slice aX0_ l0.length cpX0_)] 32))
    have HZ0 : Hid ((x4.alloc (.cells #[.string ⟨m0.toArray⟩, .string ⟨h0.toArray⟩, .string ⟨t0.toArray⟩, (.slice aX0_ l0.length cpX0_)] 32)).cell? ⟨x4.heap.size, 0, none⟩ = some (.string ⟨m0.toArray⟩) ∧ (x4.alloc (.cells #[.string ⟨m0.toArray⟩, .string ⟨h0.toArray⟩, .string ⟨t0.toArray⟩, (.slice aX0_ l0.length cpX0_)] 32)).cell? ⟨x4.heap.size, 1, none⟩ = some (.string ⟨h0.toArray⟩) ∧ (x4.alloc (.cells #[.string ⟨m0.toArray⟩, .string ⟨h0.toArray⟩, .string ⟨t0.toArray⟩, (.slice aX0_ l0.length cpX0_)] 32)).cell? ⟨x4.heap.size, 2, none⟩ = some (.string ⟨t0.toArray⟩) ∧ (x4.alloc (.cells #[.string ⟨m0.toArray⟩, .string ⟨h0.toArray⟩, .string ⟨t0.toArray⟩, (.slice aX0_ l0.length cpX0_)] 32)).cell? ⟨x4.heap.size, 3, none⟩ = some ((.slice aX0_ l0.length cpX0_))) := Lib.hid ⟨by rw [World.cell?_alloc_new]; rfl, by rw [World.cell?_alloc_new]; rfl, by rw [World.cell?_alloc_new]; rfl, by rw [World.cell?_alloc_new]; rfl⟩
    have HX1o := HX1.out
    obtain ⟨hx1_0, hx1_1, hx1_2⟩ := HX1o
    go_wp2_with (fail)
    go_at_call 10
    refine (Msg.copy_rsp c1 u1 l1 b1 w.heap.size _ HY1.out (by have h9 := HB.out.size; omega) HL1.out).mono ?_
    rintro e x6 ⟨vX1_, rfl, oX1_, b6⟩
    have hs6 := b6.size
    obtain ⟨aX1_, cpX1_, rfl, _⟩ := Rec.shape_at oX1_
    clear hx1_0 hx1_1 hx1_2
    have HX0 := Lib.hid (And.intro ((b6.cell (p := ⟨w.heap.size, 0, none⟩) (Rec.lt_of_cell (HX0.out.1))).trans (HX0.out.1)) (And.intro ((b6.cell (p := ⟨w.heap.size, 1, none⟩) (Rec.lt_of_cell (HX0.out.2.1))).trans (HX0.out.2.1)) (And.intro ((b6.cell (p := ⟨w.heap.size, 2, none⟩) (Rec.lt_of_cell (HX0.out.2.2.1))).trans (HX0.out.2.2.1)) ((b6.cell (p := ⟨w.heap.size, 3, none⟩) (Rec.lt_of_cell (HX0.out.2.2.2))).trans (HX0.out.2.2.2)))))
    have HX1 := Lib.hid (And.intro ((b6.cell (p := ⟨(w.heap.size + 1), 0, none⟩) (Rec.lt_of_cell (HX1.out.1))).trans (HX1.out.1)) (And.intro ((b6.cell (p := ⟨(w.heap.size + 1), 1, none⟩) (Rec.lt_of_cell (HX1.out.2.1))).trans (HX1.out.2.1)) ((b6.cell (p := ⟨(w.heap.size + 1), 2, none⟩) (Rec.lt_of_cell (HX1.out.2.2))).trans (HX1.out.2.2))))
    have HY0 := Lib.hid (Flds.holds_below HY0.out (b6.mono (by omega)))
    have HY1 := Lib.hid (Flds.holds_below HY1.out (b6.mono (by omega)))
    have HX0_ := Lib.hid (Flds.holds_below HX0_.out (b6.mono (by omega)))
    have HZ0 := Lib.hid (And.intro ((b6.cell (p := ⟨x4.heap.size, 0, none⟩) (Rec.lt_of_cell (HZ0.out.1))).trans (HZ0.out.1)) (And.intro ((b6.cell (p := ⟨x4.heap.size, 1, none⟩) (Rec.lt_of_cell (HZ0.out.2.1))).trans (HZ0.out.2.1)) (And.intro ((b6.cell (p := ⟨x4.heap.size, 2, none⟩) (Rec.lt_of_cell (HZ0.out.2.2.1))).trans (HZ0.out.2.2.1)) ((b6.cell (p := ⟨x4.heap.size, 3, none⟩) (Rec.lt_of_cell (HZ0.out.2.2.2))).trans (HZ0.out.2.2.2)))))
    have HB := Lib.hid (Base.then_below HB.out b6)
    clear b6
    have HX1_ := Lib.hid (Flds.own_holds oX1_)
    clear oX1_
    have hsa7 : (x6.alloc (.cells #[.int .i64 c1, (.slice aX1_ l1.length cpX1_), .string ⟨b1.toArray⟩] 35)).heap.size = x6.heap.size + 1 := by simp
    have HX0 := Lib.hid (And.intro ((((Below.refl x6.heap.size x6).alloc (Nat.le_refl _) (.cells #[.int .i64 c1, (.slice aX1_ l1.length cpX1_), .string ⟨b1.toArray⟩] 35)).cell (p := ⟨w.heap.size, 0, none⟩) (Rec.lt_of_cell (HX0.out.1))).trans (HX0.out.1)) (And.intro ((((Below.refl x6.heap.size x6).alloc (Nat.le_refl _) (.cells #[.int .i64 c1, (.slice aX1_ l1.length cpX1_), .string ⟨b1.toArray⟩] 35)).cell (p := ⟨w.heap.size, 1, none⟩) (Rec.lt_of_cell (HX0.out.2.1))).trans (HX0.out.2.1)) (And.intro ((((Below.refl x6.heap.size x6).alloc (Nat.le_refl _) (.cells #[.int .i64 c1, (.slice aX1_ l1.length cpX1_), .string ⟨b1.toArray⟩] 35)).cell (p := ⟨w.heap.size, 2, none⟩) (Rec.lt_of_cell (HX0.out.2.2.1))).trans (HX0.out.2.2.1)) ((((Below.refl x6.heap.size x6).alloc (Nat.le_refl _) (.cells #[.int .i64 c1, (.slice aX1_ l1.length cpX1_), .string ⟨b1.toArray⟩] 35)).cell (p := ⟨w.heap.size, 3, none⟩) (Rec.lt_of_cell (HX0.out.2.2.2))).trans (HX0.out.2.2.2)))))
    have HX1 := Lib.hid (And.intro ((((Below.refl x6.heap.size x6).alloc (Nat.le_refl _) (.cells #[.int .i64 c1, (.slice aX1_ l1.length cpX1_), .string ⟨b1.toArray⟩] 35)).cell (p := ⟨(w.heap.size + 1), 0, none⟩) (Rec.lt_of_cell (HX1.out.1))).trans (HX1.out.1)) (And.intro ((((Below.refl x6.heap.size x6).alloc (Nat.le_refl _) (.cells #[.int .i64 c1, (.slice aX1_ l1.length cpX1_), .string ⟨b1.toArray⟩] 35)).cell (p := ⟨(w.heap.size + 1), 1, none⟩) (Rec.lt_of_cell (HX1.out.2.1))).trans (HX1.out.2.1)) ((((Below.refl x6.heap.size x6).alloc (Nat.le_refl _) (.cells #[.int .i64 c1, (.slice aX1_ l1.length cpX1_), .string ⟨b1.toArray⟩] 35)).cell (p := ⟨(w.heap.size + 1), 2, none⟩) (Rec.lt_of_cell (HX1.out.2.2))).trans (HX1.out.2.2))))
    have HY0 := Lib.hid (Flds.holds_below HY0.out (((Below.refl x6.heap.size x6).alloc (Nat.le_refl _) (.cells #[.int .i64 c1, (.slice aX1_ l1.length cpX1_), .string ⟨b1.toArray⟩] 35)).mono (by omega)))
    have HY1 := Lib.hid (Flds.holds_below HY1.out (((Below.refl x6.heap.size x6).alloc (Nat.le_refl _) (.cells #[.int .i64 c1, (.slice aX1_ l1.length cpX1_), .string ⟨b1.toArray⟩] 35)).mono (by omega)))
    have HX0_ := Lib.hid (Flds.holds_below HX0_.out (((Below.refl x6.heap.size x6).alloc (Nat.le_refl _) (.cells #[.int .i64 c1, (.slice aX1_ l1.length cpX1_), .string ⟨b1.toArray⟩] 35)).mono (by omega)))
    have HZ0 := Lib.hid (And.intro ((((Below.refl x6.heap.size x6).alloc (Nat.le_refl _) (.cells #[.int .i64 c1, (.slice aX1_ l1.length cpX1_), .string ⟨b1.toArray⟩] 35)).cell (p := ⟨x4.heap.size, 0, none⟩) (Rec.lt_of_cell (HZ0.out.1))).trans (HZ0.out.1)) (And.intro ((((Below.refl x6.heap.size x6).alloc (Nat.le_refl _) (.cells #[.int .i64 c1, (.slice aX1_ l1.length cpX1_), .string ⟨b1.toArray⟩] 35)).cell (p := ⟨x4.heap.size, 1, none⟩) (Rec.lt_of_cell (HZ0.out.2.1))).trans (HZ0.out.2.1)) (And.intro ((((Below.refl x6.heap.size x6).alloc (Nat.le_refl _) (.cells #[.int .i64 c1, (.slice aX1_ l1.length cpX1_), .string ⟨b1.toArray⟩] 35)).cell (p := ⟨x4.heap.size, 2, none⟩) (Rec.lt_of_cell (HZ0.out.2.2.1))).trans (HZ0.out.2.2.1)) ((((Below.refl x6.heap.size x6).alloc (Nat.le_refl _) (.cells #[.int .i64 c1, (.slice aX1_ l1.length cpX1_), .string ⟨b1.toArray⟩] 35)).cell (p := ⟨x4.heap.size, 3, none⟩) (Rec.lt_of_cell (HZ0.out.2.2.2))).trans (HZ0.out.2.2.2)))))
    have HX1_ := Lib.hid (Flds.holds_below HX1_.out (((Below.refl x6.heap.size x6).alloc (Nat.le_refl _) (.cells #[.int .i64 c1, (.slice aX1_ l1.length cpX1_), .string ⟨b1.toArray⟩] 35)).mono (by omega)))
    have HB := Lib.hid (HB.out.alloc HB.out.size (.cells #[.int .i64 c1, (.slice aX1_ l1.length cpX1_), .string ⟨b1.toArray⟩] 35))
    have HZ1 : Hid ((x6.alloc (.cells #[.int .i64 c1, (.slice aX1_ l1.length cpX1_), .string ⟨b1.toArray⟩] 35)).cell? ⟨x6.heap.size, 0, none⟩ = some (.int .i64 c1) ∧ (x6.alloc (.cells #[.int .i64 c1, (.slice aX1_ l1.length cpX1_), .string ⟨b1.toArray⟩] 35)).cell? ⟨x6.heap.size, 1, none⟩ = some ((.slice aX1_ l1.length cpX1_)) ∧ (x6.alloc (.cells #[.int .i64 c1, (.slice aX1_ l1.length cpX1_), .string ⟨b1.toArray⟩] 35)).cell? ⟨x6.heap.size, 2, none⟩ = some (.string ⟨b1.toArray⟩)) := Lib.hid ⟨by rw [World.cell?_alloc_new]; rfl, by rw [World.cell?_alloc_new]; rfl, by rw [World.cell?_alloc_new]; rfl⟩
    have HZ0o := HZ0.out
    obtain ⟨hz0_0, hz0_1, hz0_2, hz0_3⟩ := HZ0o
    have HZ1o := HZ1.out
    obtain ⟨hz1_0, hz1_1, hz1_2⟩ := HZ1o
    go_wp2_with (fail)
    go_at_call 15
    refine (Srv.impl_plan m0 h0 t0 (.slice aX0_ l0.length cpX0_) l0 c1 (.slice aX1_ l1.length cpX1_) l1 b1 a2 a3 _ _ (Flds.holds_more HX0_.out (by omega)) HX1_.out (by omega) (by have := HT0.out; omega) (by have := HT1.out; omega) (Dir.errs_below HER.out HB.out)).mono ?_
    rintro e x8 ⟨he, b8⟩
    rw [← HGr.out] at he
    subst he
    have hs8 := b8.size
    clear hz0_0 hz0_1 hz0_2 hz0_3
    clear hz1_0 hz1_1 hz1_2
    have HX0 := Lib.hid (And.intro ((b8.cell (p := ⟨w.heap.size, 0, none⟩) (Rec.lt_of_cell (HX0.out.1))).trans (HX0.out.1)) (And.intro ((b8.cell (p := ⟨w.heap.size, 1, none⟩) (Rec.lt_of_cell (HX0.out.2.1))).trans (HX0.out.2.1)) (And.intro ((b8.cell (p := ⟨w.heap.size, 2, none⟩) (Rec.lt_of_cell (HX0.out.2.2.1))).trans (HX0.out.2.2.1)) ((b8.cell (p := ⟨w.heap.size, 3, none⟩) (Rec.lt_of_cell (HX0.out.2.2.2))).trans (HX0.out.2.2.2)))))
    have HX1 := Lib.hid (And.intro ((b8.cell (p := ⟨(w.heap.size + 1), 0, none⟩) (Rec.lt_of_cell (HX1.out.1))).trans (HX1.out.1)) (And.intro ((b8.cell (p := ⟨(w.heap.size + 1), 1, none⟩) (Rec.lt_of_cell (HX1.out.2.1))).trans (HX1.out.2.1)) ((b8.cell (p := ⟨(w.heap.size + 1), 2, none⟩) (Rec.lt_of_cell (HX1.out.2.2))).trans (HX1.out.2.2))))
    have HY0 := Lib.hid (Flds.holds_below HY0.out (b8.mono (by omega)))
    have HY1 := Lib.hid (Flds.holds_below HY1.out (b8.mono (by omega)))
    have HX0_ := Lib.hid (Flds.holds_below HX0_.out (b8.mono (by omega)))
    have HZ0 := Lib.hid (And.intro ((b8.cell (p := ⟨x4.heap.size, 0, none⟩) (Rec.lt_of_cell (HZ0.out.1))).trans (HZ0.out.1)) (And.intro ((b8.cell (p := ⟨x4.heap.size, 1, none⟩) (Rec.lt_of_cell (HZ0.out.2.1))).trans (HZ0.out.2.1)) (And.intro ((b8.cell (p := ⟨x4.heap.size, 2, none⟩) (Rec.lt_of_cell (HZ0.out.2.2.1))).trans (HZ0.out.2.2.1)) ((b8.cell (p := ⟨x4.heap.size, 3, none⟩) (Rec.lt_of_cell (HZ0.out.2.2.2))).trans (HZ0.out.2.2.2)))))
    have HX1_ := Lib.hid (Flds.holds_below HX1_.out (b8.mono (by omega)))
    have HZ1 := Lib.hid (And.intro ((b8.cell (p := ⟨x6.heap.size, 0, none⟩) (Rec.lt_of_cell (HZ1.out.1))).trans (HZ1.out.1)) (And.intro ((b8.cell (p := ⟨x6.heap.size, 1, none⟩) (Rec.lt_of_cell (HZ1.out.2.1))).trans (HZ1.out.2.1)) ((b8.cell (p := ⟨x6.heap.size, 2, none⟩) (Rec.lt_of_cell (HZ1.out.2.2))).trans (HZ1.out.2.2))))
    have HB := Lib.hid (Base.then_below HB.out b8)
    clear b8
    go_upto_region 14 with fail
    go_cut [47] (fun s47 wx => s47 = .bool false ∧ Hid (wx.cell? ⟨w.heap.size, 0, none⟩ = some (.string ⟨m0.toArray⟩) ∧ wx.cell? ⟨w.heap.size, 1, none⟩ = some (.string ⟨h0.toArray⟩) ∧ wx.cell? ⟨w.heap.size, 2, none⟩ = some (.string ⟨t0.toArray⟩) ∧ wx.cell? ⟨w.heap.size, 3, none⟩ = some (u0)) ∧ Hid (wx.cell? ⟨(w.heap.size + 1), 0, none⟩ = some (.int .i64 c1) ∧ wx.cell? ⟨(w.heap.size + 1), 1, none⟩ = some (u1) ∧ wx.cell? ⟨(w.heap.size + 1), 2, none⟩ = some (.string ⟨b1.toArray⟩)) ∧ Hid (Flds.Holds wx w.heap.size u0 l0) ∧ Hid (Flds.Holds wx w.heap.size u1 l1) ∧ Hid (Flds.Holds wx wx.heap.size (.slice aX0_ l0.length cpX0_) l0) ∧ Hid (wx.cell? ⟨x4.heap.size, 0, none⟩ = some (.string ⟨m0.toArray⟩) ∧ wx.cell? ⟨x4.heap.size, 1, none⟩ = some (.string ⟨h0.toArray⟩) ∧ wx.cell? ⟨x4.heap.size, 2, none⟩ = some (.string ⟨t0.toArray⟩) ∧ wx.cell? ⟨x4.heap.size, 3, none⟩ = some ((.slice aX0_ l0.length cpX0_))) ∧ Hid (Flds.Holds wx wx.heap.size (.slice aX1_ l1.length cpX1_) l1) ∧ Hid (wx.cell? ⟨x6.heap.size, 0, none⟩ = some (.int .i64 c1) ∧ wx.cell? ⟨x6.heap.size, 1, none⟩ = some ((.slice aX1_ l1.length cpX1_)) ∧ wx.cell? ⟨x6.heap.size, 2, none⟩ = some (.string ⟨b1.toArray⟩)) ∧ Hid (Below w.heap.size w wx))
    case first =>
      have HX0 : Hid (x8.drew.cell? ⟨w.heap.size, 0, none⟩ = some (.string ⟨m0.toArray⟩) ∧ x8.drew.cell? ⟨w.heap.size, 1, none⟩ = some (.string ⟨h0.toArray⟩) ∧ x8.drew.cell? ⟨w.heap.size, 2, none⟩ = some (.string ⟨t0.toArray⟩) ∧ x8.drew.cell? ⟨w.heap.size, 3, none⟩ = some (u0)) := Lib.hid HX0.out
      have HX1 : Hid (x8.drew.cell? ⟨(w.heap.size + 1), 0, none⟩ = some (.int .i64 c1) ∧ x8.drew.cell? ⟨(w.heap.size + 1), 1, none⟩ = some (u1) ∧ x8.drew.cell? ⟨(w.heap.size + 1), 2, none⟩ = some (.string ⟨b1.toArray⟩)) := Lib.hid HX1.out
      have HY0 := Lib.hid (Msg.flds_drew HY0.out)
      have HY1 := Lib.hid (Msg.flds_drew HY1.out)
      have HX0_ := Lib.hid (Msg.flds_drew HX0_.out)
      have HZ0 : Hid (x8.drew.cell? ⟨x4.heap.size, 0, none⟩ = some (.string ⟨m0.toArray⟩) ∧ x8.drew.cell? ⟨x4.heap.size, 1, none⟩ = some (.string ⟨h0.toArray⟩) ∧ x8.drew.cell? ⟨x4.heap.size, 2, none⟩ = some (.string ⟨t0.toArray⟩) ∧ x8.drew.cell? ⟨x4.heap.size, 3, none⟩ = some ((.slice aX0_ l0.length cpX0_))) := Lib.hid HZ0.out
      have HX1_ := Lib.hid (Msg.flds_drew HX1_.out)
      have HZ1 : Hid (x8.drew.cell? ⟨x6.heap.size, 0, none⟩ = some (.int .i64 c1) ∧ x8.drew.cell? ⟨x6.heap.size, 1, none⟩ = some ((.slice aX1_ l1.length cpX1_)) ∧ x8.drew.cell? ⟨x6.heap.size, 2, none⟩ = some (.string ⟨b1.toArray⟩)) := Lib.hid HZ1.out
      have HB := Lib.hid (Rec.below_drew HB.out)
      have hdz9 : x8.drew.heap.size = x8.heap.size := rfl
      have qhx0_0 := HX0.out.1
      have qhx0_1 := HX0.out.2.1
      have qhx0_2 := HX0.out.2.2.1
      have qhx0_3 := HX0.out.2.2.2
      have qhz0_0 := HZ0.out.1
      have qhz0_1 := HZ0.out.2.1
      have qhz0_2 := HZ0.out.2.2.1
      have qhz0_3 := HZ0.out.2.2.2
      go_region_with (first | (go_at_call 9; (with_reducible refine (Msg.copy_req m0 h0 t0 u0 l0 w.heap.size _ HY0.out (by have h9 := HB.out.size; omega) HL0.out).mono ?_); rintro e xq0 ⟨vC0, rfl, oC0, bq⟩; clear qhx0_0 qhx0_1 qhx0_2 qhx0_3 qhz0_0 qhz0_1 qhz0_2 qhz0_3; have hqz := bq.size; have HX0 := Lib.hid (And.intro ((bq.cell (p := ⟨w.heap.size, 0, none⟩) (Rec.lt_of_cell (HX0.out.1))).trans (HX0.out.1)) (And.intro ((bq.cell (p := ⟨w.heap.size, 1, none⟩) (Rec.lt_of_cell (HX0.out.2.1))).trans (HX0.out.2.1)) (And.intro ((bq.cell (p := ⟨w.heap.size, 2, none⟩) (Rec.lt_of_cell (HX0.out.2.2.1))).trans (HX0.out.2.2.1)) ((bq.cell (p := ⟨w.heap.size, 3, none⟩) (Rec.lt_of_cell (HX0.out.2.2.2))).trans (HX0.out.2.2.2))))); have HX1 := Lib.hid (And.intro ((bq.cell (p := ⟨(w.heap.size + 1), 0, none⟩) (Rec.lt_of_cell (HX1.out.1))).trans (HX1.out.1)) (And.intro ((bq.cell (p := ⟨(w.heap.size + 1), 1, none⟩) (Rec.lt_of_cell (HX1.out.2.1))).trans (HX1.out.2.1)) ((bq.cell (p := ⟨(w.heap.size + 1), 2, none⟩) (Rec.lt_of_cell (HX1.out.2.2))).trans (HX1.out.2.2)))); have HY0 := Lib.hid (Flds.holds_below HY0.out (bq.mono (by have h9 := HB.out.size; omega))); have HY1 := Lib.hid (Flds.holds_below HY1.out (bq.mono (by have h9 := HB.out.size; omega))); have HX0_ := Lib.hid (Flds.holds_below HX0_.out (bq.mono (by have h9 := HB.out.size; omega))); have HZ0 := Lib.hid (And.intro ((bq.cell (p := ⟨x4.heap.size, 0, none⟩) (Rec.lt_of_cell (HZ0.out.1))).trans (HZ0.out.1)) (And.intro ((bq.cell (p := ⟨x4.heap.size, 1, none⟩) (Rec.lt_of_cell (HZ0.out.2.1))).trans (HZ0.out.2.1)) (And.intro ((bq.cell (p := ⟨x4.heap.size, 2, none⟩) (Rec.lt_of_cell (HZ0.out.2.2.1))).trans (HZ0.out.2.2.1)) ((bq.cell (p := ⟨x4.heap.size, 3, none⟩) (Rec.lt_of_cell (HZ0.out.2.2.2))).trans (HZ0.out.2.2.2))))); have HX1_ := Lib.hid (Flds.holds_below HX1_.out (bq.mono (by have h9 := HB.out.size; omega))); have HZ1 := Lib.hid (And.intro ((bq.cell (p := ⟨x6.heap.size, 0, none⟩) (Rec.lt_of_cell (HZ1.out.1))).trans (HZ1.out.1)) (And.intro ((bq.cell (p := ⟨x6.heap.size, 1, none⟩) (Rec.lt_of_cell (HZ1.out.2.1))).trans (HZ1.out.2.1)) ((bq.cell (p := ⟨x6.heap.size, 2, none⟩) (Rec.lt_of_cell (HZ1.out.2.2))).trans (HZ1.out.2.2)))); have HB := Lib.hid (Base.then_below HB.out bq); have HC0 := Lib.hid (Flds.own_holds oC0); have qhx0_0 := HX0.out.1; have qhx0_1 := HX0.out.2.1; have qhx0_2 := HX0.out.2.2.1; have qhx0_3 := HX0.out.2.2.2; have qhz0_0 := HZ0.out.1; have qhz0_1 := HZ0.out.2.1; have qhz0_2 := HZ0.out.2.2.1; have qhz0_3 := HZ0.out.2.2.2; clear bq oC0) | (go_at_call 12; refine (Msg.eq_req m0 h0 t0 (.slice aX0_ l0.length cpX0_) l0 vC0 _ _ _ HX0_.out HC0.out (by have h9 := HB.out.size; omega) (by omega) HL0.out).mono ?_; rintro e xe0 ⟨rfl, bq⟩; have hqz := bq.size; have HX0 := Lib.hid (And.intro ((bq.cell (p := ⟨w.heap.size, 0, none⟩) (Rec.lt_of_cell (HX0.out.1))).trans (HX0.out.1)) (And.intro ((bq.cell (p := ⟨w.heap.size, 1, none⟩) (Rec.lt_of_cell (HX0.out.2.1))).trans (HX0.out.2.1)) (And.intro ((bq.cell (p := ⟨w.heap.size, 2, none⟩) (Rec.lt_of_cell (HX0.out.2.2.1))).trans (HX0.out.2.2.1)) ((bq.cell (p := ⟨w.heap.size, 3, none⟩) (Rec.lt_of_cell (HX0.out.2.2.2))).trans (HX0.out.2.2.2))))); have HX1 := Lib.hid (And.intro ((bq.cell (p := ⟨(w.heap.size + 1), 0, none⟩) (Rec.lt_of_cell (HX1.out.1))).trans (HX1.out.1)) (And.intro ((bq.cell (p := ⟨(w.heap.size + 1), 1, none⟩) (Rec.lt_of_cell (HX1.out.2.1))).trans (HX1.out.2.1)) ((bq.cell (p := ⟨(w.heap.size + 1), 2, none⟩) (Rec.lt_of_cell (HX1.out.2.2))).trans (HX1.out.2.2)))); have HY0 := Lib.hid (Flds.holds_below HY0.out (bq.mono (by have h9 := HB.out.size; omega))); have HY1 := Lib.hid (Flds.holds_below HY1.out (bq.mono (by have h9 := HB.out.size; omega))); have HX0_ := Lib.hid (Flds.holds_below HX0_.out (bq.mono (by have h9 := HB.out.size; omega))); have HZ0 := Lib.hid (And.intro ((bq.cell (p := ⟨x4.heap.size, 0, none⟩) (Rec.lt_of_cell (HZ0.out.1))).trans (HZ0.out.1)) (And.intro ((bq.cell (p := ⟨x4.heap.size, 1, none⟩) (Rec.lt_of_cell (HZ0.out.2.1))).trans (HZ0.out.2.1)) (And.intro ((bq.cell (p := ⟨x4.heap.size, 2, none⟩) (Rec.lt_of_cell (HZ0.out.2.2.1))).trans (HZ0.out.2.2.1)) ((bq.cell (p := ⟨x4.heap.size, 3, none⟩) (Rec.lt_of_cell (HZ0.out.2.2.2))).trans (HZ0.out.2.2.2))))); have HX1_ := Lib.hid (Flds.holds_below HX1_.out (bq.mono (by have h9 := HB.out.size; omega))); have HZ1 := Lib.hid (And.intro ((bq.cell (p := ⟨x6.heap.size, 0, none⟩) (Rec.lt_of_cell (HZ1.out.1))).trans (HZ1.out.1)) (And.intro ((bq.cell (p := ⟨x6.heap.size, 1, none⟩) (Rec.lt_of_cell (HZ1.out.2.1))).trans (HZ1.out.2.1)) ((bq.cell (p := ⟨x6.heap.size, 2, none⟩) (Rec.lt_of_cell (HZ1.out.2.2))).trans (HZ1.out.2.2)))); have HB := Lib.hid (Base.then_below HB.out bq); clear bq HC0 qhx0_0 qhx0_1 qhx0_2 qhx0_3 qhz0_0 qhz0_1 qhz0_2 qhz0_3))
      all_goals (go_wp2_with fail; go_meet; exact ⟨rfl, HX0, HX1, HY0, HY1, Lib.hid (Msg.flds_top HX0_.out), HZ0, Lib.hid (Msg.flds_top HX1_.out), HZ1, HB⟩)
    case rest =>
      obtain ⟨rfl, HX0, HX1, HY0, HY1, HX0_, HZ0, HX1_, HZ1, HB⟩ := hcut
      have hsr9 := HB.out.size
      go_upto_region 16 with fail
      go_cut [52] (fun s52 wx => s52 = .bool false ∧ Hid (wx.cell? ⟨w.heap.size, 0, none⟩ = some (.string ⟨m0.toArray⟩) ∧ wx.cell? ⟨w.heap.size, 1, none⟩ = some (.string ⟨h0.toArray⟩) ∧ wx.cell? ⟨w.heap.size, 2, none⟩ = some (.string ⟨t0.toArray⟩) ∧ wx.cell? ⟨w.heap.size, 3, none⟩ = some (u0)) ∧ Hid (wx.cell? ⟨(w.heap.size + 1), 0, none⟩ = some (.int .i64 c1) ∧ wx.cell? ⟨(w.heap.size + 1), 1, none⟩ = some (u1) ∧ wx.cell? ⟨(w.heap.size + 1), 2, none⟩ = some (.string ⟨b1.toArray⟩)) ∧ Hid (Flds.Holds wx w.heap.size u0 l0) ∧ Hid (Flds.Holds wx w.heap.size u1 l1) ∧ Hid (Flds.Holds wx wx.heap.size (.slice aX0_ l0.length cpX0_) l0) ∧ Hid (wx.cell? ⟨x4.heap.size, 0, none⟩ = some (.string ⟨m0.toArray⟩) ∧ wx.cell? ⟨x4.heap.size, 1, none⟩ = some (.string ⟨h0.toArray⟩) ∧ wx.cell? ⟨x4.heap.size, 2, none⟩ = some (.string ⟨t0.toArray⟩) ∧ wx.cell? ⟨x4.heap.size, 3, none⟩ = some ((.slice aX0_ l0.length cpX0_))) ∧ Hid (Flds.Holds wx wx.heap.size (.slice aX1_ l1.length cpX1_) l1) ∧ Hid (wx.cell? ⟨x6.heap.size, 0, none⟩ = some (.int .i64 c1) ∧ wx.cell? ⟨x6.heap.size, 1, none⟩ = some ((.slice aX1_ l1.length cpX1_)) ∧ wx.cell? ⟨x6.heap.size, 2, none⟩ = some (.string ⟨b1.toArray⟩)) ∧ Hid (Below w.heap.size w wx))
      case first =>
        have HX0 : Hid (wc.drew.cell? ⟨w.heap.size, 0, none⟩ = some (.string ⟨m0.toArray⟩) ∧ wc.drew.cell? ⟨w.heap.size, 1, none⟩ = some (.string ⟨h0.toArray⟩) ∧ wc.drew.cell? ⟨w.heap.size, 2, none⟩ = some (.string ⟨t0.toArray⟩) ∧ wc.drew.cell? ⟨w.heap.size, 3, none⟩ = some (u0)) := Lib.hid HX0.out
        have HX1 : Hid (wc.drew.cell? ⟨(w.heap.size + 1), 0, none⟩ = some (.int .i64 c1) ∧ wc.drew.cell? ⟨(w.heap.size + 1), 1, none⟩ = some (u1) ∧ wc.drew.cell? ⟨(w.heap.size + 1), 2, none⟩ = some (.string ⟨b1.toArray⟩)) := Lib.hid HX1.out
        have HY0 := Lib.hid (Msg.flds_drew HY0.out)
        have HY1 := Lib.hid (Msg.flds_drew HY1.out)
        have HX0_ := Lib.hid (Msg.flds_drew HX0_.out)
        have HZ0 : Hid (wc.drew.cell? ⟨x4.heap.size, 0, none⟩ = some (.string ⟨m0.toArray⟩) ∧ wc.drew.cell? ⟨x4.heap.size, 1, none⟩ = some (.string ⟨h0.toArray⟩) ∧ wc.drew.cell? ⟨x4.heap.size, 2, none⟩ = some (.string ⟨t0.toArray⟩) ∧ wc.drew.cell? ⟨x4.heap.size, 3, none⟩ = some ((.slice aX0_ l0.length cpX0_))) := Lib.hid HZ0.out
        have HX1_ := Lib.hid (Msg.flds_drew HX1_.out)
        have HZ1 : Hid (wc.drew.cell? ⟨x6.heap.size, 0, none⟩ = some (.int .i64 c1) ∧ wc.drew.cell? ⟨x6.heap.size, 1, none⟩ = some ((.slice aX1_ l1.length cpX1_)) ∧ wc.drew.cell? ⟨x6.heap.size, 2, none⟩ = some (.string ⟨b1.toArray⟩)) := Lib.hid HZ1.out
        have HB := Lib.hid (Rec.below_drew HB.out)
        have hdz10 : wc.drew.heap.size = wc.heap.size := rfl
        have qhx1_0 := HX1.out.1
        have qhx1_1 := HX1.out.2.1
        have qhx1_2 := HX1.out.2.2
        have qhz1_0 := HZ1.out.1
        have qhz1_1 := HZ1.out.2.1
        have qhz1_2 := HZ1.out.2.2
        go_region_with (first | (go_at_call 10; (with_reducible refine (Msg.copy_rsp c1 u1 l1 b1 w.heap.size _ HY1.out (by have h9 := HB.out.size; omega) HL1.out).mono ?_); rintro e xq1 ⟨vC1, rfl, oC1, bq⟩; clear qhx1_0 qhx1_1 qhx1_2 qhz1_0 qhz1_1 qhz1_2; have hqz := bq.size; have HX0 := Lib.hid (And.intro ((bq.cell (p := ⟨w.heap.size, 0, none⟩) (Rec.lt_of_cell (HX0.out.1))).trans (HX0.out.1)) (And.intro ((bq.cell (p := ⟨w.heap.size, 1, none⟩) (Rec.lt_of_cell (HX0.out.2.1))).trans (HX0.out.2.1)) (And.intro ((bq.cell (p := ⟨w.heap.size, 2, none⟩) (Rec.lt_of_cell (HX0.out.2.2.1))).trans (HX0.out.2.2.1)) ((bq.cell (p := ⟨w.heap.size, 3, none⟩) (Rec.lt_of_cell (HX0.out.2.2.2))).trans (HX0.out.2.2.2))))); have HX1 := Lib.hid (And.intro ((bq.cell (p := ⟨(w.heap.size + 1), 0, none⟩) (Rec.lt_of_cell (HX1.out.1))).trans (HX1.out.1)) (And.intro ((bq.cell (p := ⟨(w.heap.size + 1), 1, none⟩) (Rec.lt_of_cell (HX1.out.2.1))).trans (HX1.out.2.1)) ((bq.cell (p := ⟨(w.heap.size + 1), 2, none⟩) (Rec.lt_of_cell (HX1.out.2.2))).trans (HX1.out.2.2)))); have HY0 := Lib.hid (Flds.holds_below HY0.out (bq.mono (by have h9 := HB.out.size; omega))); have HY1 := Lib.hid (Flds.holds_below HY1.out (bq.mono (by have h9 := HB.out.size; omega))); have HX0_ := Lib.hid (Flds.holds_below HX0_.out (bq.mono (by have h9 := HB.out.size; omega))); have HZ0 := Lib.hid (And.intro ((bq.cell (p := ⟨x4.heap.size, 0, none⟩) (Rec.lt_of_cell (HZ0.out.1))).trans (HZ0.out.1)) (And.intro ((bq.cell (p := ⟨x4.heap.size, 1, none⟩) (Rec.lt_of_cell (HZ0.out.2.1))).trans (HZ0.out.2.1)) (And.intro ((bq.cell (p := ⟨x4.heap.size, 2, none⟩) (Rec.lt_of_cell (HZ0.out.2.2.1))).trans (HZ0.out.2.2.1)) ((bq.cell (p := ⟨x4.heap.size, 3, none⟩) (Rec.lt_of_cell (HZ0.out.2.2.2))).trans (HZ0.out.2.2.2))))); have HX1_ := Lib.hid (Flds.holds_below HX1_.out (bq.mono (by have h9 := HB.out.size; omega))); have HZ1 := Lib.hid (And.intro ((bq.cell (p := ⟨x6.heap.size, 0, none⟩) (Rec.lt_of_cell (HZ1.out.1))).trans (HZ1.out.1)) (And.intro ((bq.cell (p := ⟨x6.heap.size, 1, none⟩) (Rec.lt_of_cell (HZ1.out.2.1))).trans (HZ1.out.2.1)) ((bq.cell (p := ⟨x6.heap.size, 2, none⟩) (Rec.lt_of_cell (HZ1.out.2.2))).trans (HZ1.out.2.2)))); have HB := Lib.hid (Base.then_below HB.out bq); have HC1 := Lib.hid (Flds.own_holds oC1); have qhx1_0 := HX1.out.1; have qhx1_1 := HX1.out.2.1; have qhx1_2 := HX1.out.2.2; have qhz1_0 := HZ1.out.1; have qhz1_1 := HZ1.out.2.1; have qhz1_2 := HZ1.out.2.2; clear bq oC1) | (go_at_call 13; refine (Msg.eq_rsp c1 (.slice aX1_ l1.length cpX1_) l1 b1 vC1 _ _ _ HX1_.out HC1.out (by have h9 := HB.out.size; omega) (by omega) HL1.out).mono ?_; rintro e xe1 ⟨rfl, bq⟩; have hqz := bq.size; have HX0 := Lib.hid (And.intro ((bq.cell (p := ⟨w.heap.size, 0, none⟩) (Rec.lt_of_cell (HX0.out.1))).trans (HX0.out.1)) (And.intro ((bq.cell (p := ⟨w.heap.size, 1, none⟩) (Rec.lt_of_cell (HX0.out.2.1))).trans (HX0.out.2.1)) (And.intro ((bq.cell (p := ⟨w.heap.size, 2, none⟩) (Rec.lt_of_cell (HX0.out.2.2.1))).trans (HX0.out.2.2.1)) ((bq.cell (p := ⟨w.heap.size, 3, none⟩) (Rec.lt_of_cell (HX0.out.2.2.2))).trans (HX0.out.2.2.2))))); have HX1 := Lib.hid (And.intro ((bq.cell (p := ⟨(w.heap.size + 1), 0, none⟩) (Rec.lt_of_cell (HX1.out.1))).trans (HX1.out.1)) (And.intro ((bq.cell (p := ⟨(w.heap.size + 1), 1, none⟩) (Rec.lt_of_cell (HX1.out.2.1))).trans (HX1.out.2.1)) ((bq.cell (p := ⟨(w.heap.size + 1), 2, none⟩) (Rec.lt_of_cell (HX1.out.2.2))).trans (HX1.out.2.2)))); have HY0 := Lib.hid (Flds.holds_below HY0.out (bq.mono (by have h9 := HB.out.size; omega))); have HY1 := Lib.hid (Flds.holds_below HY1.out (bq.mono (by have h9 := HB.out.size; omega))); have HX0_ := Lib.hid (Flds.holds_below HX0_.out (bq.mono (by have h9 := HB.out.size; omega))); have HZ0 := Lib.hid (And.intro ((bq.cell (p := ⟨x4.heap.size, 0, none⟩) (Rec.lt_of_cell (HZ0.out.1))).trans (HZ0.out.1)) (And.intro ((bq.cell (p := ⟨x4.heap.size, 1, none⟩) (Rec.lt_of_cell (HZ0.out.2.1))).trans (HZ0.out.2.1)) (And.intro ((bq.cell (p := ⟨x4.heap.size, 2, none⟩) (Rec.lt_of_cell (HZ0.out.2.2.1))).trans (HZ0.out.2.2.1)) ((bq.cell (p := ⟨x4.heap.size, 3, none⟩) (Rec.lt_of_cell (HZ0.out.2.2.2))).trans (HZ0.out.2.2.2))))); have HX1_ := Lib.hid (Flds.holds_below HX1_.out (bq.mono (by have h9 := HB.out.size; omega))); have HZ1 := Lib.hid (And.intro ((bq.cell (p := ⟨x6.heap.size, 0, none⟩) (Rec.lt_of_cell (HZ1.out.1))).trans (HZ1.out.1)) (And.intro ((bq.cell (p := ⟨x6.heap.size, 1, none⟩) (Rec.lt_of_cell (HZ1.out.2.1))).trans (HZ1.out.2.1)) ((bq.cell (p := ⟨x6.heap.size, 2, none⟩) (Rec.lt_of_cell (HZ1.out.2.2))).trans (HZ1.out.2.2)))); have HB := Lib.hid (Base.then_below HB.out bq); clear bq HC1 qhx1_0 qhx1_1 qhx1_2 qhz1_0 qhz1_1 qhz1_2))
        all_goals (go_wp2_with fail; go_meet; exact ⟨rfl, HX0, HX1, HY0, HY1, Lib.hid (Msg.flds_top HX0_.out), HZ0, Lib.hid (Msg.flds_top HX1_.out), HZ1, HB⟩)
      case rest =>
        obtain ⟨rfl, HX0, HX1, HY0, HY1, HX0_, HZ0, HX1_, HZ1, HB⟩ := hcut
        have hsr10 := HB.out.size
        go_wp2
        go_ret
        exact ⟨rfl, HB.out⟩

set_option maxRecDepth 1000000 in
theorem lifted (os : Os) (started : os.Started) (H : Type) (enc : TypeId × Value → H) :
    ReturnsInHanded {} Tryz.checked os 4 .any (fun w args => (Rows.fnExactPlanForSpec.pre enc Tryz.prog Tryz.f4 [] false w args ∧ laidMetH Tryz.prog Rows.fnExactPlanForRow.laid w) ∧ sizedMet enc Tryz.prog Tryz.f4 (OpenSpec.ofChange Rows.fnExactPlanForSpec) false w args)
      (Rows.fnExactPlanForSpec.post enc Tryz.prog Tryz.f4 false true false false) := by
  refine returnsInHanded_of_change_and (C := Tryz.checked) (X := fun w _ => laidMetH Tryz.prog Rows.fnExactPlanForRow.laid w) (fun _ _ _ hh h => h.of_heap hh) own started (by kernel_rfl) Tryz.func4
    (ChangeSpec.witness_shaped (enc := enc) (C := Tryz.checked) (os := os) (X := fun w _ => laidMetH Tryz.prog Rows.fnExactPlanForRow.laid w) false (World.laidAll Tryz.prog os Rows.fnExactPlanForRow.laid) #[.agg #[.string ⟨#[]⟩, .string ⟨#[]⟩, .string ⟨#[]⟩, .slice none 0 0], .agg #[.int .i64 0, .slice none 0 0, .string ⟨#[]⟩], .int .i64 0, .int .i64 0] 8 (World.laidAll_os _ _ _) (World.shaped_of_ZipB (by kernel_rfl) (by kernel_rfl)) (by kernel_rfl) (by kernel_rfl) (by kernel_rfl)
      (by rw [MakeChecks.laidMetH_plain _ _ _ (by kernel_rfl)]; exact laidMet_laidAll _ (by kernel_rfl) (by kernel_rfl))) ?_
  intro W base args ds gs before hval0 hW _ _ hL _
  have hval : ∀ (j : Nat) t v, Tryz.f4.params[j]? = some t → args[j]? = some v → Value.okWide Tryz.prog W .any base t v := hval0
  have hW' := hW
  obtain ⟨p, q, hA0, hV, rfl, hfz, hnd⟩ := hW
  have hA : DataW.TrodAll enc Tryz.prog W 0 (fun _ => true) true Tryz.f4.params.toList args.toList ds p := hA0
  rw [Tryz.params4] at hA hval
  obtain ⟨v0, vs0, d0, ds0, p0, q0, hargs, rfl, rfl, h0, r0⟩ := trodAll_cons hA
  obtain ⟨v1, vs1, d1, ds1, p1, q1, rfl, rfl, rfl, h1, r1⟩ := trodAll_cons r0
  obtain ⟨v2, vs2, d2, ds2, p2, q2, rfl, rfl, rfl, h2, r2⟩ := trodAll_cons r1
  obtain ⟨v3, vs3, d3, ds3, p3, q3, rfl, rfl, rfl, h3, r3⟩ := trodAll_cons r2
  obtain ⟨rfl, rfl, rfl⟩ := trodAll_nil r3
  obtain rfl : args = #[v0, v1, v2, v3] := by cases args; simp_all
  have hgl := vars_len hV
  obtain ⟨g0, g1, rfl⟩ : ∃ g0 g1, gs = [g0, g1] := match gs, hgl with | [x0, x1], _ => ⟨x0, x1, rfl⟩
  have k0 := h0
  obtain ⟨m0, hh0, t0, u0, l0, rfl, y0, w0⟩ := Msg.open_req (hval 0 24 v0 rfl rfl) h0
  have k1 := h1
  obtain ⟨c1, u1, l1, b1, rfl, y1, w1⟩ := Msg.open_rsp (hval 1 26 v1 rfl rfl) h1
  have k2 := h2
  obtain ⟨a2, rfl, rfl, rfl, w2⟩ := open_int Tryz.underlying3 (hval 2 3 v2 rfl rfl) h2
  have k3 := h3
  obtain ⟨a3, rfl, rfl, rfl, w3⟩ := open_int Tryz.underlying3 (hval 3 3 v3 rfl rfl) h3
  clear hA0 hval0
  simp only [List.append_nil] at hW'
  have hL' : laidMet Tryz.prog Rows.fnExactPlanForRow.laid W := by rw [← MakeChecks.laidMetH_plain _ _ _ (by kernel_rfl)]; exact hL
  refine (walk m0 hh0 t0 u0 l0 c1 u1 l1 b1 a2 a3 w0 w1 w2 w3 W y0 y1 (Dir.laid_errs hL' (by simp [Rows.fnExactPlanForRow]) (by simp [Rows.fnExactPlanForRow]))).mono fun e W' ⟨he, hb⟩ => ?_
  subst he
  exact ⟨_, rfl, ⟨_, _, _, [], _, _, hW', (trodAll_cons_mk (shut_bool Tryz.underlying4 _) trodAll_mk0), (trodAll_cons_mk (Below.trod laidOut (by kernel_rfl) (of_decide_eq_true (by kernel_rfl)) k0 hb (fun x hx => hW'.lt x (by simp [hx]))) (trodAll_cons_mk (Below.trod laidOut (by kernel_rfl) (of_decide_eq_true (by kernel_rfl)) k1 hb (fun x hx => hW'.lt x (by simp [hx]))) (trodAll_cons_mk (shut_int Tryz.underlying3 w2) (trodAll_cons_mk (shut_int Tryz.underlying3 w3) trodAll_mk0)))), Below.trodVars laidOut hb (by kernel_rfl) hV, hb.frame _, fun h => by cases h⟩⟩

theorem over : Rows.fnExactPlanForRow.holds Tryz.pinned (OpenSpec.ofChange Rows.fnExactPlanForSpec) :=
  OpenClaim.holds_of_wide 4 Tryz.f4 rfl rfl rfl rfl rfl rfl rfl ⟨rfl, rfl, rfl, rfl, rfl⟩ rfl rfl rfl rfl rfl (by kernel_rfl) Tryz.func4 (by kernel_rfl)
    (of_decide_eq_true (by kernel_rfl)) (by unfold Func.isWrapper; first | (rw [if_pos (by decide +kernel)]; kernel_rfl) | (rw [if_neg (by decide +kernel)]; exact ⟨rfl, rfl⟩))
    (fun os started H enc _ => lifted os started H enc)

/-- The given statement: the law's card, tied. -/
theorem proved : Rows.FnExactPlanForCardSaid :=
  Claim7.holds_tied_plain_at .later [] _ true _ _
    over (fun _ h => by cases h) (by kernel_rfl) (fun _ h => by cases h) fnExactPlanFor_row_tie rfl ⟨rfl, rfl⟩ (by kernel_rfl) rfl
    (fun f fn hf hfn => by
      obtain rfl : f = 4 := Option.some.inj ((show Tryz.prog.funcNamed "loop.example/g03012/laws.FnExactPlanFor" = some 4 by kernel_rfl).symm.trans hf) |>.symm
      obtain rfl : fn = Tryz.f4 := (Option.some.inj (Tryz.func4.symm.trans hfn)).symm
      exact ⟨by kernel_rfl, fun j t ht => by
        rw [Tryz.params4] at ht
        have hm : t ∈ [24, 26, 3, 3] := by simpa using Array.mem_of_getElem? ht
        have hall : ([24, 26, 3, 3].all fun u => !Tryz.prog.wantsStandIn u) = true := by kernel_rfl
        exact (show Tryz.prog.wantsStandIn t = false by simpa using List.all_eq_true.1 hall t hm)⟩)
    (by kernel_rfl)
#print axioms proved
end Go.Proofs.YtddpfhcmifnagaaGreatDoor.fnExactPlanFor
