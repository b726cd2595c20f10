/-
  PROVED: at any policy and any request the program's RuleFor returns what its model returns and writes into no argument: the exact law of RuleFor returns true and leaves its arguments as they were. CONDITION: the library's errors read as their text lays them, the other listed variables as pinned (the card ties them to the text of the pruned project).
-/
import Derived.Test.YtindnhmigljkaaaGreatDoorPrA
import Derived.Carry
import Derived.Test.YtindnhmigljkaaaGreatDoorPrB
import Derived.Test.YtindnhmigljkaaaGreatDoorPrD
import Derived.Test.YtindnhmigljkaaaGreatDoorPrT
import Derived.Test.YtindnhmigljkaaaGreatDoorPrU
import Derived.Test.YtindnhmigljkaaaGreatDoorPrO
import Derived.Test.YtindnhmigljkaaaGreatDoorTie
import Derived.Test.YtindnhmigljkaaaGreatDoorCards
import Derived.LaidMore
import Derived.Lay
import Derived.OpenVars
import Derived.Stop.LaidErr
import Derived.Deep.DeepCutAuto
import Derived.RegionTactic
import Derived.Deep.RegionHeld3
namespace Go.Proofs.YtindnhmigljkaaaGreatDoor.fnExactRuleFor
open Go.ChangeShapes Go.WideShapes Go.ChangeAt Go.RowKit
set_option linter.unusedVariables false
set_option maxRecDepth 1000000

theorem own : ownKnob Tryz.prog.godebug = none := by kernel_rfl

theorem laidOut : laidOutB Tryz.prog = true := by kernel_rfl

/-- A block that was laid in front of a call. -/
theorem with_alloc {P : Program} {f : FuncId} {args : Array Value} {W : World} {a : Array Value} {T : TypeId} {E : Ending → World → Prop} (h : Below W.heap.size W (W.alloc (.cells a T)) → Kept.Box (W.alloc (.cells a T)) W.heap.size a.toList → Calls P f args (W.alloc (.cells a T)) E) : Calls P f args (W.alloc (.cells a T)) E :=
  h ((Below.refl _ _).alloc (Nat.le_refl _) _) Kept.Box.new
theorem with_drew {P : Program} {f : FuncId} {args : Array Value} {W : World} {a : Array Value} {T : TypeId} {E : Ending → World → Prop} (h : Below W.heap.size W (W.alloc (.cells a T)).drew → Kept.Box (W.alloc (.cells a T)).drew W.heap.size a.toList → Calls P f args (W.alloc (.cells a T)).drew E) : Calls P f args (W.alloc (.cells a T)).drew E :=
  h (Rec.below_drew ((Below.refl _ _).alloc (Nat.le_refl _) _)) (Kept.Box.new.below (Rec.below_drew (Below.refl _ _)))
set_option maxHeartbeats 16000000 in
theorem walk (v0 : Value) (z0 : List Rul.T) (m1 h1 t1 : List UInt8) (u1 : Value) (l1 : List Msg.F) (w0 : z0.length ≤ maxLen ∧ (∀ f ∈ z0, Rul.Ok f)) (w1 : Msg.Ok_req m1 h1 t1 l1) (w : World) (y0 : Rul.Holds w w.heap.size v0 z0) (y1 : Flds.Holds w w.heap.size u1 l1) (her : Par.Errs w) (hmx : Sh.MxL w) :
    Calls Tryz.prog 3 #[v0, .agg #[.string ⟨m1.toArray⟩, .string ⟨h1.toArray⟩, .string ⟨t1.toArray⟩, u1]] w fun e w' => e = .returned (.bool true) ∧ Below w.heap.size w w' := by
  have HER := Lib.hid her
  have HMX := Lib.hid hmx
  clear her hmx
  have HW0 := Lib.hid w0
  have HY0 := Lib.hid y0
  have HW1 := Lib.hid w1
  have HY1 := Lib.hid y1
  clear w0 y0 w1 y1
  have HB1' : Below w.heap.size w (w.alloc (.cells #[.string ⟨m1.toArray⟩, .string ⟨h1.toArray⟩, .string ⟨t1.toArray⟩, u1] 25)) := (Below.refl w.heap.size w).alloc (by simp) (.cells #[.string ⟨m1.toArray⟩, .string ⟨h1.toArray⟩, .string ⟨t1.toArray⟩, u1] 25)
  have hz1' : w.heap.size < (w.alloc (.cells #[.string ⟨m1.toArray⟩, .string ⟨h1.toArray⟩, .string ⟨t1.toArray⟩, u1] 25)).heap.size := by simp
  have HX1 : Hid ((w.alloc (.cells #[.string ⟨m1.toArray⟩, .string ⟨h1.toArray⟩, .string ⟨t1.toArray⟩, u1] 25)).cell? ⟨w.heap.size, 0, none⟩ = some (.string ⟨m1.toArray⟩) ∧ (w.alloc (.cells #[.string ⟨m1.toArray⟩, .string ⟨h1.toArray⟩, .string ⟨t1.toArray⟩, u1] 25)).cell? ⟨w.heap.size, 1, none⟩ = some (.string ⟨h1.toArray⟩) ∧ (w.alloc (.cells #[.string ⟨m1.toArray⟩, .string ⟨h1.toArray⟩, .string ⟨t1.toArray⟩, u1] 25)).cell? ⟨w.heap.size, 2, none⟩ = some (.string ⟨t1.toArray⟩) ∧ (w.alloc (.cells #[.string ⟨m1.toArray⟩, .string ⟨h1.toArray⟩, .string ⟨t1.toArray⟩, u1] 25)).cell? ⟨w.heap.size, 3, none⟩ = some (u1)) := Lib.hid ⟨by rw [World.cell?_alloc_new]; rfl, by rw [World.cell?_alloc_new]; rfl, by rw [World.cell?_alloc_new]; rfl, by rw [World.cell?_alloc_new]; rfl⟩
  have HB := Lib.hid HB1'
  have HY0 := Lib.hid (Rul.holds_below HY0.out (HB.out.mono (Nat.le_refl _)))
  have HY1 := Lib.hid (Flds.holds_below HY1.out (HB.out.mono (Nat.le_refl _)))
  have hszw := HB.out.size
  clear HB1'
  go_enter Tryz.func3, Tryz.ntmps3
  go_wp2_with (fail)
  go_at_call 5
  refine (Rul.size_any _ _ z0 _ _ HY0.out HW0.out.1 HW0.out.2 (by decide) (by decide)).mono ?_
  rintro e x1 ⟨z_0, rfl, hz0, b1⟩
  have hs1 := b1.size
  have HX1 := Lib.hid (And.intro ((b1.cell (p := ⟨w.heap.size, 0, none⟩) (Rec.lt_of_cell (HX1.out.1))).trans (HX1.out.1)) (And.intro ((b1.cell (p := ⟨w.heap.size, 1, none⟩) (Rec.lt_of_cell (HX1.out.2.1))).trans (HX1.out.2.1)) (And.intro ((b1.cell (p := ⟨w.heap.size, 2, none⟩) (Rec.lt_of_cell (HX1.out.2.2.1))).trans (HX1.out.2.2.1)) ((b1.cell (p := ⟨w.heap.size, 3, none⟩) (Rec.lt_of_cell (HX1.out.2.2.2))).trans (HX1.out.2.2.2)))))
  have HY0 := Lib.hid (Rul.holds_below HY0.out (b1.mono (by omega)))
  have HY1 := Lib.hid (Flds.holds_below HY1.out (b1.mono (by omega)))
  have HB := Lib.hid (Base.then_below HB.out b1)
  clear b1
  rcases hz0 with hz0 | ⟨hz0, ht0⟩
  · go_wp2
    go_ret
    exact ⟨rfl, HB.out⟩
  have hzn0 : ¬ z_0 < 0 := by omega
  have HZ0 : Hid (z_0 + ((Rul.total z0 : Nat) : Int) = 1048576) := Lib.hid (by omega)
  clear ht0
  have HX1o := HX1.out
  obtain ⟨hx1_0, hx1_1, hx1_2, hx1_3⟩ := HX1o
  go_wp2_with (fail)
  go_at_call 6
  refine (Msg.size_req m1 h1 t1 u1 l1 z_0 w.heap.size _ HY1.out (by omega) HW1.out hz0 (by have := HZ0.out; omega)).mono ?_
  rintro e x2 ⟨z_1, rfl, hz1, b2⟩
  have hs2 := b2.size
  clear hx1_0 hx1_1 hx1_2 hx1_3
  have HX1 := Lib.hid (And.intro ((b2.cell (p := ⟨w.heap.size, 0, none⟩) (Rec.lt_of_cell (HX1.out.1))).trans (HX1.out.1)) (And.intro ((b2.cell (p := ⟨w.heap.size, 1, none⟩) (Rec.lt_of_cell (HX1.out.2.1))).trans (HX1.out.2.1)) (And.intro ((b2.cell (p := ⟨w.heap.size, 2, none⟩) (Rec.lt_of_cell (HX1.out.2.2.1))).trans (HX1.out.2.2.1)) ((b2.cell (p := ⟨w.heap.size, 3, none⟩) (Rec.lt_of_cell (HX1.out.2.2.2))).trans (HX1.out.2.2.2)))))
  have HY0 := Lib.hid (Rul.holds_below HY0.out (b2.mono (by omega)))
  have HY1 := Lib.hid (Flds.holds_below HY1.out (b2.mono (by omega)))
  have HB := Lib.hid (Base.then_below HB.out b2)
  clear b2
  rcases hz1 with hz1 | ⟨hz1, ht1⟩
  · go_wp2
    go_ret
    exact ⟨rfl, HB.out⟩
  have hzn1 : ¬ z_1 < 0 := by omega
  have HZ1 : Hid (z_1 + ((Rul.total z0 + (Flds.total l1 + m1.length + h1.length + t1.length) : Nat) : Int) = 1048576) := Lib.hid (by have := HZ0.out; omega)
  clear ht1
  have HT0 : Hid (Rul.total z0 ≤ 1048576) := Lib.hid (by have := HZ1.out; omega)
  have HL0 : Hid (z0.length ≤ 1048576) := Lib.hid (Nat.le_trans (Rul.len_le_total z0) HT0.out)
  have HT1 : Hid (Flds.total l1 + m1.length + h1.length + t1.length ≤ 1048576) := Lib.hid (by have := HZ1.out; omega)
  have HL1 : Hid (l1.length ≤ 1048576) := Lib.hid (by have := HT1.out; unfold Flds.total at this; omega)
  obtain ⟨rr, hrr⟩ : ∃ z, z = Rul.rfor z0 t1 := ⟨_, rfl⟩
  obtain ⟨ra, rp, rs⟩ := rr
  have HG := Lib.hid hrr
  clear hrr
  have FB : Hid (∀ u : World, Below x2.heap.size x2 u → (u.cell? ⟨w.heap.size, 0, none⟩ = some (.string ⟨m1.toArray⟩) ∧ u.cell? ⟨w.heap.size, 1, none⟩ = some (.string ⟨h1.toArray⟩) ∧ u.cell? ⟨w.heap.size, 2, none⟩ = some (.string ⟨t1.toArray⟩) ∧ u.cell? ⟨w.heap.size, 3, none⟩ = some (u1)) ∧ Rul.Holds u w.heap.size v0 z0 ∧ Flds.Holds u w.heap.size u1 l1 ∧ Below w.heap.size w u) := Lib.hid (fun u hb => ⟨⟨(hb.cell (p := ⟨w.heap.size, 0, none⟩) (Rec.lt_of_cell (HX1.out.1))).trans (HX1.out.1), (hb.cell (p := ⟨w.heap.size, 1, none⟩) (Rec.lt_of_cell (HX1.out.2.1))).trans (HX1.out.2.1), (hb.cell (p := ⟨w.heap.size, 2, none⟩) (Rec.lt_of_cell (HX1.out.2.2.1))).trans (HX1.out.2.2.1), (hb.cell (p := ⟨w.heap.size, 3, none⟩) (Rec.lt_of_cell (HX1.out.2.2.2))).trans (HX1.out.2.2.2)⟩, Rul.holds_below HY0.out (hb.mono (by omega)), Flds.holds_below HY1.out (hb.mono (by omega)), Base.then_below HB.out hb⟩)
  have hw5 : w.heap.size ≤ x2.heap.size := by omega
  go_upto_region 8 with fail
  go_cut [6] (fun s6 wx => ∃ g, s6 = .pointer (some ⟨g, 0, none⟩) ∧ Hid (wx.cell? ⟨g, 0, none⟩ = some (.int .i64 ra) ∧ wx.cell? ⟨g, 1, none⟩ = some (.string ⟨rp.toArray⟩) ∧ wx.cell? ⟨g, 2, none⟩ = some (.int .i64 rs)) ∧ Hid (Below x2.heap.size x2 wx))
  case first =>
    have HC5 : Hid (Below x2.heap.size x2 x2.drew) := Lib.hid (Rec.below_drew (Below.refl _ _))
    have c0 := (FB.out _ HC5.out).1.1
    have c1 := (FB.out _ HC5.out).1.2.1
    have c2 := (FB.out _ HC5.out).1.2.2.1
    have c3 := (FB.out _ HC5.out).1.2.2.2
    have k0 : ∀ o : Obj, (x2.drew.alloc o).cell? ⟨w.heap.size, 0, none⟩ = some (.string ⟨m1.toArray⟩) := fun o => (World.cell?_alloc_lt _ _ _ (Rec.lt_of_cell c0)).trans c0
    have k1 : ∀ o : Obj, (x2.drew.alloc o).cell? ⟨w.heap.size, 1, none⟩ = some (.string ⟨h1.toArray⟩) := fun o => (World.cell?_alloc_lt _ _ _ (Rec.lt_of_cell c1)).trans c1
    have k2 : ∀ o : Obj, (x2.drew.alloc o).cell? ⟨w.heap.size, 2, none⟩ = some (.string ⟨t1.toArray⟩) := fun o => (World.cell?_alloc_lt _ _ _ (Rec.lt_of_cell c2)).trans c2
    have k3 : ∀ o : Obj, (x2.drew.alloc o).cell? ⟨w.heap.size, 3, none⟩ = some (u1) := fun o => (World.cell?_alloc_lt _ _ _ (Rec.lt_of_cell c3)).trans c3
    have e0 : ∀ o : Obj, ((x2.alloc o).drew).cell? ⟨w.heap.size, 0, none⟩ = some (.string ⟨m1.toArray⟩) := fun o => (World.cell?_alloc_lt _ _ _ (Rec.lt_of_cell ((FB.out _ (Below.refl _ _)).1.1))).trans ((FB.out _ (Below.refl _ _)).1.1)
    have e1 : ∀ o : Obj, ((x2.alloc o).drew).cell? ⟨w.heap.size, 1, none⟩ = some (.string ⟨h1.toArray⟩) := fun o => (World.cell?_alloc_lt _ _ _ (Rec.lt_of_cell ((FB.out _ (Below.refl _ _)).1.2.1))).trans ((FB.out _ (Below.refl _ _)).1.2.1)
    have e2 : ∀ o : Obj, ((x2.alloc o).drew).cell? ⟨w.heap.size, 2, none⟩ = some (.string ⟨t1.toArray⟩) := fun o => (World.cell?_alloc_lt _ _ _ (Rec.lt_of_cell ((FB.out _ (Below.refl _ _)).1.2.2.1))).trans ((FB.out _ (Below.refl _ _)).1.2.2.1)
    have e3 : ∀ o : Obj, ((x2.alloc o).drew).cell? ⟨w.heap.size, 3, none⟩ = some (u1) := fun o => (World.cell?_alloc_lt _ _ _ (Rec.lt_of_cell ((FB.out _ (Below.refl _ _)).1.2.2.2))).trans ((FB.out _ (Below.refl _ _)).1.2.2.2)
    go_wp2
    go_region_held3 (fun u => u.cell? ⟨w.heap.size, 0, none⟩ = some (.string ⟨m1.toArray⟩) ∧ u.cell? ⟨w.heap.size, 1, none⟩ = some (.string ⟨h1.toArray⟩) ∧ u.cell? ⟨w.heap.size, 2, none⟩ = some (.string ⟨t1.toArray⟩) ∧ u.cell? ⟨w.heap.size, 3, none⟩ = some (u1))
      (first | with_reducible exact ⟨c0, c1, c2, c3⟩ | with_reducible exact ⟨k0 _, k1 _, k2 _, k3 _⟩ | with_reducible exact ⟨e0 _, e1 _, e2 _, e3 _⟩ | (refine ⟨?_, ?_, ?_, ?_⟩ <;> (with_reducible refine (World.cell?_setCell_other _ _ _ _ (fun e => by have h8 := congrArg Addr.block e; have h9 := HC5.out.size; simp at h8; omega)).trans ((World.cell?_setCell_other _ _ _ _ (fun e => by have h8 := congrArg Addr.block e; have h9 := HC5.out.size; simp at h8; omega)).trans ((World.cell?_setCell_other _ _ _ _ (fun e => by have h8 := congrArg Addr.block e; have h9 := HC5.out.size; simp at h8; omega)).trans ?_)); first | with_reducible exact c0 | with_reducible exact c1 | with_reducible exact c2 | with_reducible exact c3 | with_reducible exact k0 _ | with_reducible exact k1 _ | with_reducible exact k2 _ | with_reducible exact k3 _)))
      (first | (go_at_call 8; (try (with_reducible refine with_drew (fun hal hkz => ?_); have HC5 := Lib.hid hal; have hkg := Nat.le_refl x2.heap.size; clear hal)); (try (with_reducible refine with_alloc (fun hal hkz => ?_); have hkg := HC5.out.size; have HC5 := Lib.hid (Base.then_below HC5.out hal); (try have HA0 := Lib.hid (Rul.holds_more (Rul.holds_below HA0.out hal) hal.size)); (try have HAm := Lib.hid (Flds.holds_more (Flds.holds_below HAm.out hal) hal.size)); clear hal)); (try (clear c0 k0 c1 k1 c2 k2 c3 k3)); (try (clear e0 e1 e2 e3)); refine (Rul.copy _ _ _ _ (FB.out _ HC5.out).2.1 HL0.out).mono ?_; rintro e xq ⟨vA0, rfl, oq, bq⟩; (try have HA0 := Lib.hid (Rul.holds_more (Rul.holds_below HA0.out bq) bq.size)); (try have HAm := Lib.hid (Flds.holds_more (Flds.holds_below HAm.out bq) bq.size)); (try have hkz := hkz.below bq); have HC5 := Lib.hid (Base.then_below HC5.out bq); have HA0 := Lib.hid (Rul.own_holds oq); clear bq oq; have c0 := (FB.out _ HC5.out).1.1; have c1 := (FB.out _ HC5.out).1.2.1; have c2 := (FB.out _ HC5.out).1.2.2.1; have c3 := (FB.out _ HC5.out).1.2.2.2; have k0 : ∀ o : Obj, (xq.alloc o).cell? ⟨w.heap.size, 0, none⟩ = some (.string ⟨m1.toArray⟩) := fun o => (World.cell?_alloc_lt _ _ _ (Rec.lt_of_cell c0)).trans c0; have k1 : ∀ o : Obj, (xq.alloc o).cell? ⟨w.heap.size, 1, none⟩ = some (.string ⟨h1.toArray⟩) := fun o => (World.cell?_alloc_lt _ _ _ (Rec.lt_of_cell c1)).trans c1; have k2 : ∀ o : Obj, (xq.alloc o).cell? ⟨w.heap.size, 2, none⟩ = some (.string ⟨t1.toArray⟩) := fun o => (World.cell?_alloc_lt _ _ _ (Rec.lt_of_cell c2)).trans c2; have k3 : ∀ o : Obj, (xq.alloc o).cell? ⟨w.heap.size, 3, none⟩ = some (u1) := fun o => (World.cell?_alloc_lt _ _ _ (Rec.lt_of_cell c3)).trans c3) | (go_at_call 9; (try (with_reducible refine with_drew (fun hal hkz => ?_); have HC5 := Lib.hid hal; have hkg := Nat.le_refl x2.heap.size; clear hal)); (try (with_reducible refine with_alloc (fun hal hkz => ?_); have hkg := HC5.out.size; have HC5 := Lib.hid (Base.then_below HC5.out hal); (try have HA0 := Lib.hid (Rul.holds_more (Rul.holds_below HA0.out hal) hal.size)); (try have HAm := Lib.hid (Flds.holds_more (Flds.holds_below HAm.out hal) hal.size)); clear hal)); (try (clear c0 k0 c1 k1 c2 k2 c3 k3)); (try (clear e0 e1 e2 e3)); refine (Msg.copy_req m1 h1 t1 u1 l1 w.heap.size _ (FB.out _ HC5.out).2.2.1 (by have h9 := HC5.out.size; omega) HL1.out).mono ?_; rintro e xq ⟨vm, rfl, oq, bq⟩; (try have HA0 := Lib.hid (Rul.holds_more (Rul.holds_below HA0.out bq) bq.size)); (try have HAm := Lib.hid (Flds.holds_more (Flds.holds_below HAm.out bq) bq.size)); (try have hkz := hkz.below bq); have HC5 := Lib.hid (Base.then_below HC5.out bq); have HAm := Lib.hid (Flds.own_holds oq); clear bq oq; have c0 := (FB.out _ HC5.out).1.1; have c1 := (FB.out _ HC5.out).1.2.1; have c2 := (FB.out _ HC5.out).1.2.2.1; have c3 := (FB.out _ HC5.out).1.2.2.2; have k0 : ∀ o : Obj, (xq.alloc o).cell? ⟨w.heap.size, 0, none⟩ = some (.string ⟨m1.toArray⟩) := fun o => (World.cell?_alloc_lt _ _ _ (Rec.lt_of_cell c0)).trans c0; have k1 : ∀ o : Obj, (xq.alloc o).cell? ⟨w.heap.size, 1, none⟩ = some (.string ⟨h1.toArray⟩) := fun o => (World.cell?_alloc_lt _ _ _ (Rec.lt_of_cell c1)).trans c1; have k2 : ∀ o : Obj, (xq.alloc o).cell? ⟨w.heap.size, 2, none⟩ = some (.string ⟨t1.toArray⟩) := fun o => (World.cell?_alloc_lt _ _ _ (Rec.lt_of_cell c2)).trans c2; have k3 : ∀ o : Obj, (xq.alloc o).cell? ⟨w.heap.size, 3, none⟩ = some (u1) := fun o => (World.cell?_alloc_lt _ _ _ (Rec.lt_of_cell c3)).trans c3) | (go_at_call 7; (try (with_reducible refine with_drew (fun hal hkz => ?_); have HC5 := Lib.hid hal; have hkg := Nat.le_refl x2.heap.size; clear hal)); (try (with_reducible refine with_alloc (fun hal hkz => ?_); have hkg := HC5.out.size; have HC5 := Lib.hid (Base.then_below HC5.out hal); (try have HA0 := Lib.hid (Rul.holds_more (Rul.holds_below HA0.out hal) hal.size)); (try have HAm := Lib.hid (Flds.holds_more (Flds.holds_below HAm.out hal) hal.size)); clear hal)); (try (clear c0 k0 c1 k1 c2 k2 c3 k3)); (try (clear e0 e1 e2 e3)); refine (Rul.spec_rf vA0 _ z0 m1 h1 t1 vm _ HA0.out (Nat.le_refl _) HT0.out (by have := HT1.out; omega)).mono ?_; rintro e xr ⟨he, bq⟩; rw [← HG.out] at he; subst he; (try have HA0 := Lib.hid (Rul.holds_more (Rul.holds_below HA0.out bq) bq.size)); (try have HAm := Lib.hid (Flds.holds_more (Flds.holds_below HAm.out bq) bq.size)); (try have hkz := hkz.below bq); have HC5 := Lib.hid (Base.then_below HC5.out bq); (try have q0 := hkz.cell 0 _ rfl); (try have q1 := hkz.cell 1 _ rfl); (try have q2 := hkz.cell 2 _ rfl); (try have f0 := hkz.frz 0); (try have f1 := hkz.frz 1); (try have f2 := hkz.frz 2); clear bq HA0 HAm; have c0 := (FB.out _ HC5.out).1.1; have c1 := (FB.out _ HC5.out).1.2.1; have c2 := (FB.out _ HC5.out).1.2.2.1; have c3 := (FB.out _ HC5.out).1.2.2.2; have k0 : ∀ o : Obj, (xr.alloc o).cell? ⟨w.heap.size, 0, none⟩ = some (.string ⟨m1.toArray⟩) := fun o => (World.cell?_alloc_lt _ _ _ (Rec.lt_of_cell c0)).trans c0; have k1 : ∀ o : Obj, (xr.alloc o).cell? ⟨w.heap.size, 1, none⟩ = some (.string ⟨h1.toArray⟩) := fun o => (World.cell?_alloc_lt _ _ _ (Rec.lt_of_cell c1)).trans c1; have k2 : ∀ o : Obj, (xr.alloc o).cell? ⟨w.heap.size, 2, none⟩ = some (.string ⟨t1.toArray⟩) := fun o => (World.cell?_alloc_lt _ _ _ (Rec.lt_of_cell c2)).trans c2; have k3 : ∀ o : Obj, (xr.alloc o).cell? ⟨w.heap.size, 3, none⟩ = some (u1) := fun o => (World.cell?_alloc_lt _ _ _ (Rec.lt_of_cell c3)).trans c3))
    all_goals (go_wp2_with fail; go_meet)
    all_goals first | (have hg' := hkg; have hbx := Rul.Box3 (b := (0, [], 0)) (f := (ra, rp, rs)) hkz; exact ⟨_, rfl, Lib.hid ⟨hbx.cell 0 _ rfl, hbx.cell 1 _ rfl, hbx.cell 2 _ rfl⟩, Lib.hid (((HC5.out.setCell hkg _).setCell hkg _).setCell hkg _)⟩) | (have hbx := Kept.Box.new (w := xr) (T := 29) (a := #[.int .i64 ra, .string ⟨rp.toArray⟩, .int .i64 rs]); exact ⟨_, rfl, Lib.hid ⟨hbx.cell 0 _ rfl, hbx.cell 1 _ rfl, hbx.cell 2 _ rfl⟩, Lib.hid (HC5.out.alloc HC5.out.size _)⟩)
  case rest =>
    obtain ⟨gw, rfl, HWX, HC5⟩ := hcut
    obtain ⟨fx, fy0, fy1, fb⟩ := FB.out _ HC5.out
    have HX1 := Lib.hid fx
    have HY0 := Lib.hid fy0
    have HY1 := Lib.hid fy1
    have HB := Lib.hid fb
    have hsr := HB.out.size
    clear FB HC5 fx fy0 fy1 fb
    go_wp2_with (fail)
    go_at_call 8
    refine (Rul.copy _ _ _ _ HY0.out HL0.out).mono ?_
    rintro e x3 ⟨vX0, rfl, oX0, b3⟩
    have hs3 := b3.size
    have HX1 := Lib.hid (And.intro ((b3.cell (p := ⟨w.heap.size, 0, none⟩) (Rec.lt_of_cell (HX1.out.1))).trans (HX1.out.1)) (And.intro ((b3.cell (p := ⟨w.heap.size, 1, none⟩) (Rec.lt_of_cell (HX1.out.2.1))).trans (HX1.out.2.1)) (And.intro ((b3.cell (p := ⟨w.heap.size, 2, none⟩) (Rec.lt_of_cell (HX1.out.2.2.1))).trans (HX1.out.2.2.1)) ((b3.cell (p := ⟨w.heap.size, 3, none⟩) (Rec.lt_of_cell (HX1.out.2.2.2))).trans (HX1.out.2.2.2)))))
    have HY0 := Lib.hid (Rul.holds_below HY0.out (b3.mono (by omega)))
    have HY1 := Lib.hid (Flds.holds_below HY1.out (b3.mono (by omega)))
    have HWX := Lib.hid (And.intro ((b3.cell (p := ⟨gw, 0, none⟩) (Rec.lt_of_cell (HWX.out.1))).trans (HWX.out.1)) (And.intro ((b3.cell (p := ⟨gw, 1, none⟩) (Rec.lt_of_cell (HWX.out.2.1))).trans (HWX.out.2.1)) ((b3.cell (p := ⟨gw, 2, none⟩) (Rec.lt_of_cell (HWX.out.2.2))).trans (HWX.out.2.2))))
    have HB := Lib.hid (Base.then_below HB.out b3)
    clear b3
    have HX0 := Lib.hid (Rul.own_holds oX0)
    clear oX0
    have HX1o := HX1.out
    obtain ⟨hx1_0, hx1_1, hx1_2, hx1_3⟩ := HX1o
    go_wp2_with (fail)
    go_at_call 9
    refine (Msg.copy_req m1 h1 t1 u1 l1 w.heap.size _ HY1.out (by omega) HL1.out).mono ?_
    rintro e x4 ⟨vX, rfl, oX, b4⟩
    have hs4 := b4.size
    obtain ⟨aX, cpX, rfl, _⟩ := Rec.shape_at oX
    clear hx1_0 hx1_1 hx1_2 hx1_3
    have HX1 := Lib.hid (And.intro ((b4.cell (p := ⟨w.heap.size, 0, none⟩) (Rec.lt_of_cell (HX1.out.1))).trans (HX1.out.1)) (And.intro ((b4.cell (p := ⟨w.heap.size, 1, none⟩) (Rec.lt_of_cell (HX1.out.2.1))).trans (HX1.out.2.1)) (And.intro ((b4.cell (p := ⟨w.heap.size, 2, none⟩) (Rec.lt_of_cell (HX1.out.2.2.1))).trans (HX1.out.2.2.1)) ((b4.cell (p := ⟨w.heap.size, 3, none⟩) (Rec.lt_of_cell (HX1.out.2.2.2))).trans (HX1.out.2.2.2)))))
    have HY0 := Lib.hid (Rul.holds_below HY0.out (b4.mono (by omega)))
    have HY1 := Lib.hid (Flds.holds_below HY1.out (b4.mono (by omega)))
    have HWX := Lib.hid (And.intro ((b4.cell (p := ⟨gw, 0, none⟩) (Rec.lt_of_cell (HWX.out.1))).trans (HWX.out.1)) (And.intro ((b4.cell (p := ⟨gw, 1, none⟩) (Rec.lt_of_cell (HWX.out.2.1))).trans (HWX.out.2.1)) ((b4.cell (p := ⟨gw, 2, none⟩) (Rec.lt_of_cell (HWX.out.2.2))).trans (HWX.out.2.2))))
    have HX0 := Lib.hid (Rul.holds_below HX0.out (b4.mono (by omega)))
    have HB := Lib.hid (Base.then_below HB.out b4)
    clear b4
    have HX := Lib.hid (Flds.own_holds oX)
    clear oX
    have hsa5 : (x4.alloc (.cells #[.string ⟨m1.toArray⟩, .string ⟨h1.toArray⟩, .string ⟨t1.toArray⟩, (.slice aX l1.length cpX)] 35)).heap.size = x4.heap.size + 1 := by simp
    have HX1 := Lib.hid (And.intro ((((Below.refl x4.heap.size x4).alloc (Nat.le_refl _) (.cells #[.string ⟨m1.toArray⟩, .string ⟨h1.toArray⟩, .string ⟨t1.toArray⟩, (.slice aX l1.length cpX)] 35)).cell (p := ⟨w.heap.size, 0, none⟩) (Rec.lt_of_cell (HX1.out.1))).trans (HX1.out.1)) (And.intro ((((Below.refl x4.heap.size x4).alloc (Nat.le_refl _) (.cells #[.string ⟨m1.toArray⟩, .string ⟨h1.toArray⟩, .string ⟨t1.toArray⟩, (.slice aX l1.length cpX)] 35)).cell (p := ⟨w.heap.size, 1, none⟩) (Rec.lt_of_cell (HX1.out.2.1))).trans (HX1.out.2.1)) (And.intro ((((Below.refl x4.heap.size x4).alloc (Nat.le_refl _) (.cells #[.string ⟨m1.toArray⟩, .string ⟨h1.toArray⟩, .string ⟨t1.toArray⟩, (.slice aX l1.length cpX)] 35)).cell (p := ⟨w.heap.size, 2, none⟩) (Rec.lt_of_cell (HX1.out.2.2.1))).trans (HX1.out.2.2.1)) ((((Below.refl x4.heap.size x4).alloc (Nat.le_refl _) (.cells #[.string ⟨m1.toArray⟩, .string ⟨h1.toArray⟩, .string ⟨t1.toArray⟩, (.slice aX l1.length cpX)] 35)).cell (p := ⟨w.heap.size, 3, none⟩) (Rec.lt_of_cell (HX1.out.2.2.2))).trans (HX1.out.2.2.2)))))
    have HY0 := Lib.hid (Rul.holds_below HY0.out (((Below.refl x4.heap.size x4).alloc (Nat.le_refl _) (.cells #[.string ⟨m1.toArray⟩, .string ⟨h1.toArray⟩, .string ⟨t1.toArray⟩, (.slice aX l1.length cpX)] 35)).mono (by omega)))
    have HY1 := Lib.hid (Flds.holds_below HY1.out (((Below.refl x4.heap.size x4).alloc (Nat.le_refl _) (.cells #[.string ⟨m1.toArray⟩, .string ⟨h1.toArray⟩, .string ⟨t1.toArray⟩, (.slice aX l1.length cpX)] 35)).mono (by omega)))
    have HWX := Lib.hid (And.intro ((((Below.refl x4.heap.size x4).alloc (Nat.le_refl _) (.cells #[.string ⟨m1.toArray⟩, .string ⟨h1.toArray⟩, .string ⟨t1.toArray⟩, (.slice aX l1.length cpX)] 35)).cell (p := ⟨gw, 0, none⟩) (Rec.lt_of_cell (HWX.out.1))).trans (HWX.out.1)) (And.intro ((((Below.refl x4.heap.size x4).alloc (Nat.le_refl _) (.cells #[.string ⟨m1.toArray⟩, .string ⟨h1.toArray⟩, .string ⟨t1.toArray⟩, (.slice aX l1.length cpX)] 35)).cell (p := ⟨gw, 1, none⟩) (Rec.lt_of_cell (HWX.out.2.1))).trans (HWX.out.2.1)) ((((Below.refl x4.heap.size x4).alloc (Nat.le_refl _) (.cells #[.string ⟨m1.toArray⟩, .string ⟨h1.toArray⟩, .string ⟨t1.toArray⟩, (.slice aX l1.length cpX)] 35)).cell (p := ⟨gw, 2, none⟩) (Rec.lt_of_cell (HWX.out.2.2))).trans (HWX.out.2.2))))
    have HX0 := Lib.hid (Rul.holds_below HX0.out (((Below.refl x4.heap.size x4).alloc (Nat.le_refl _) (.cells #[.string ⟨m1.toArray⟩, .string ⟨h1.toArray⟩, .string ⟨t1.toArray⟩, (.slice aX l1.length cpX)] 35)).mono (by omega)))
    have HX := Lib.hid (Flds.holds_below HX.out (((Below.refl x4.heap.size x4).alloc (Nat.le_refl _) (.cells #[.string ⟨m1.toArray⟩, .string ⟨h1.toArray⟩, .string ⟨t1.toArray⟩, (.slice aX l1.length cpX)] 35)).mono (by omega)))
    have HB := Lib.hid (HB.out.alloc HB.out.size (.cells #[.string ⟨m1.toArray⟩, .string ⟨h1.toArray⟩, .string ⟨t1.toArray⟩, (.slice aX l1.length cpX)] 35))
    have HZX : Hid ((x4.alloc (.cells #[.string ⟨m1.toArray⟩, .string ⟨h1.toArray⟩, .string ⟨t1.toArray⟩, (.slice aX l1.length cpX)] 35)).cell? ⟨x4.heap.size, 0, none⟩ = some (.string ⟨m1.toArray⟩) ∧ (x4.alloc (.cells #[.string ⟨m1.toArray⟩, .string ⟨h1.toArray⟩, .string ⟨t1.toArray⟩, (.slice aX l1.length cpX)] 35)).cell? ⟨x4.heap.size, 1, none⟩ = some (.string ⟨h1.toArray⟩) ∧ (x4.alloc (.cells #[.string ⟨m1.toArray⟩, .string ⟨h1.toArray⟩, .string ⟨t1.toArray⟩, (.slice aX l1.length cpX)] 35)).cell? ⟨x4.heap.size, 2, none⟩ = some (.string ⟨t1.toArray⟩) ∧ (x4.alloc (.cells #[.string ⟨m1.toArray⟩, .string ⟨h1.toArray⟩, .string ⟨t1.toArray⟩, (.slice aX l1.length cpX)] 35)).cell? ⟨x4.heap.size, 3, none⟩ = some ((.slice aX l1.length cpX))) := Lib.hid ⟨by rw [World.cell?_alloc_new]; rfl, by rw [World.cell?_alloc_new]; rfl, by rw [World.cell?_alloc_new]; rfl, by rw [World.cell?_alloc_new]; rfl⟩
    have HZXo := HZX.out
    obtain ⟨hzx_0, hzx_1, hzx_2, hzx_3⟩ := HZXo
    go_wp2_with (fail)
    go_at_call 10
    refine (Rul.impl_rf vX0 _ z0 m1 h1 t1 (.slice aX l1.length cpX) _ HX0.out (by omega) HT0.out (by have := HT1.out; omega) (Par.errs_below HER.out HB.out) (Sh.mxl_below HMX.out HB.out)).mono ?_
    rintro e x6 ⟨he, b6⟩
    rw [← HG.out] at he
    subst he
    have hs6 := b6.size
    clear hzx_0 hzx_1 hzx_2 hzx_3
    have HX1 := Lib.hid (And.intro ((b6.cell (p := ⟨w.heap.size, 0, none⟩) (Rec.lt_of_cell (HX1.out.1))).trans (HX1.out.1)) (And.intro ((b6.cell (p := ⟨w.heap.size, 1, none⟩) (Rec.lt_of_cell (HX1.out.2.1))).trans (HX1.out.2.1)) (And.intro ((b6.cell (p := ⟨w.heap.size, 2, none⟩) (Rec.lt_of_cell (HX1.out.2.2.1))).trans (HX1.out.2.2.1)) ((b6.cell (p := ⟨w.heap.size, 3, none⟩) (Rec.lt_of_cell (HX1.out.2.2.2))).trans (HX1.out.2.2.2)))))
    have HY0 := Lib.hid (Rul.holds_below HY0.out (b6.mono (by omega)))
    have HY1 := Lib.hid (Flds.holds_below HY1.out (b6.mono (by omega)))
    have HWX := Lib.hid (And.intro ((b6.cell (p := ⟨gw, 0, none⟩) (Rec.lt_of_cell (HWX.out.1))).trans (HWX.out.1)) (And.intro ((b6.cell (p := ⟨gw, 1, none⟩) (Rec.lt_of_cell (HWX.out.2.1))).trans (HWX.out.2.1)) ((b6.cell (p := ⟨gw, 2, none⟩) (Rec.lt_of_cell (HWX.out.2.2))).trans (HWX.out.2.2))))
    have HX0 := Lib.hid (Rul.holds_below HX0.out (b6.mono (by omega)))
    have HX := Lib.hid (Flds.holds_below HX.out (b6.mono (by omega)))
    have HZX := Lib.hid (And.intro ((b6.cell (p := ⟨x4.heap.size, 0, none⟩) (Rec.lt_of_cell (HZX.out.1))).trans (HZX.out.1)) (And.intro ((b6.cell (p := ⟨x4.heap.size, 1, none⟩) (Rec.lt_of_cell (HZX.out.2.1))).trans (HZX.out.2.1)) (And.intro ((b6.cell (p := ⟨x4.heap.size, 2, none⟩) (Rec.lt_of_cell (HZX.out.2.2.1))).trans (HZX.out.2.2.1)) ((b6.cell (p := ⟨x4.heap.size, 3, none⟩) (Rec.lt_of_cell (HZX.out.2.2.2))).trans (HZX.out.2.2.2)))))
    have HB := Lib.hid (Base.then_below HB.out b6)
    clear b6
    have hsa7 : (x6.alloc (.cells #[.int .i64 ra, .string ⟨rp.toArray⟩, .int .i64 rs] 29)).heap.size = x6.heap.size + 1 := by simp
    have HX1 := Lib.hid (And.intro ((((Below.refl x6.heap.size x6).alloc (Nat.le_refl _) (.cells #[.int .i64 ra, .string ⟨rp.toArray⟩, .int .i64 rs] 29)).cell (p := ⟨w.heap.size, 0, none⟩) (Rec.lt_of_cell (HX1.out.1))).trans (HX1.out.1)) (And.intro ((((Below.refl x6.heap.size x6).alloc (Nat.le_refl _) (.cells #[.int .i64 ra, .string ⟨rp.toArray⟩, .int .i64 rs] 29)).cell (p := ⟨w.heap.size, 1, none⟩) (Rec.lt_of_cell (HX1.out.2.1))).trans (HX1.out.2.1)) (And.intro ((((Below.refl x6.heap.size x6).alloc (Nat.le_refl _) (.cells #[.int .i64 ra, .string ⟨rp.toArray⟩, .int .i64 rs] 29)).cell (p := ⟨w.heap.size, 2, none⟩) (Rec.lt_of_cell (HX1.out.2.2.1))).trans (HX1.out.2.2.1)) ((((Below.refl x6.heap.size x6).alloc (Nat.le_refl _) (.cells #[.int .i64 ra, .string ⟨rp.toArray⟩, .int .i64 rs] 29)).cell (p := ⟨w.heap.size, 3, none⟩) (Rec.lt_of_cell (HX1.out.2.2.2))).trans (HX1.out.2.2.2)))))
    have HY0 := Lib.hid (Rul.holds_below HY0.out (((Below.refl x6.heap.size x6).alloc (Nat.le_refl _) (.cells #[.int .i64 ra, .string ⟨rp.toArray⟩, .int .i64 rs] 29)).mono (by omega)))
    have HY1 := Lib.hid (Flds.holds_below HY1.out (((Below.refl x6.heap.size x6).alloc (Nat.le_refl _) (.cells #[.int .i64 ra, .string ⟨rp.toArray⟩, .int .i64 rs] 29)).mono (by omega)))
    have HWX := Lib.hid (And.intro ((((Below.refl x6.heap.size x6).alloc (Nat.le_refl _) (.cells #[.int .i64 ra, .string ⟨rp.toArray⟩, .int .i64 rs] 29)).cell (p := ⟨gw, 0, none⟩) (Rec.lt_of_cell (HWX.out.1))).trans (HWX.out.1)) (And.intro ((((Below.refl x6.heap.size x6).alloc (Nat.le_refl _) (.cells #[.int .i64 ra, .string ⟨rp.toArray⟩, .int .i64 rs] 29)).cell (p := ⟨gw, 1, none⟩) (Rec.lt_of_cell (HWX.out.2.1))).trans (HWX.out.2.1)) ((((Below.refl x6.heap.size x6).alloc (Nat.le_refl _) (.cells #[.int .i64 ra, .string ⟨rp.toArray⟩, .int .i64 rs] 29)).cell (p := ⟨gw, 2, none⟩) (Rec.lt_of_cell (HWX.out.2.2))).trans (HWX.out.2.2))))
    have HX0 := Lib.hid (Rul.holds_below HX0.out (((Below.refl x6.heap.size x6).alloc (Nat.le_refl _) (.cells #[.int .i64 ra, .string ⟨rp.toArray⟩, .int .i64 rs] 29)).mono (by omega)))
    have HX := Lib.hid (Flds.holds_below HX.out (((Below.refl x6.heap.size x6).alloc (Nat.le_refl _) (.cells #[.int .i64 ra, .string ⟨rp.toArray⟩, .int .i64 rs] 29)).mono (by omega)))
    have HZX := Lib.hid (And.intro ((((Below.refl x6.heap.size x6).alloc (Nat.le_refl _) (.cells #[.int .i64 ra, .string ⟨rp.toArray⟩, .int .i64 rs] 29)).cell (p := ⟨x4.heap.size, 0, none⟩) (Rec.lt_of_cell (HZX.out.1))).trans (HZX.out.1)) (And.intro ((((Below.refl x6.heap.size x6).alloc (Nat.le_refl _) (.cells #[.int .i64 ra, .string ⟨rp.toArray⟩, .int .i64 rs] 29)).cell (p := ⟨x4.heap.size, 1, none⟩) (Rec.lt_of_cell (HZX.out.2.1))).trans (HZX.out.2.1)) (And.intro ((((Below.refl x6.heap.size x6).alloc (Nat.le_refl _) (.cells #[.int .i64 ra, .string ⟨rp.toArray⟩, .int .i64 rs] 29)).cell (p := ⟨x4.heap.size, 2, none⟩) (Rec.lt_of_cell (HZX.out.2.2.1))).trans (HZX.out.2.2.1)) ((((Below.refl x6.heap.size x6).alloc (Nat.le_refl _) (.cells #[.int .i64 ra, .string ⟨rp.toArray⟩, .int .i64 rs] 29)).cell (p := ⟨x4.heap.size, 3, none⟩) (Rec.lt_of_cell (HZX.out.2.2.2))).trans (HZX.out.2.2.2)))))
    have HB := Lib.hid (HB.out.alloc HB.out.size (.cells #[.int .i64 ra, .string ⟨rp.toArray⟩, .int .i64 rs] 29))
    have HGX : Hid ((x6.alloc (.cells #[.int .i64 ra, .string ⟨rp.toArray⟩, .int .i64 rs] 29)).cell? ⟨x6.heap.size, 0, none⟩ = some (.int .i64 ra) ∧ (x6.alloc (.cells #[.int .i64 ra, .string ⟨rp.toArray⟩, .int .i64 rs] 29)).cell? ⟨x6.heap.size, 1, none⟩ = some (.string ⟨rp.toArray⟩) ∧ (x6.alloc (.cells #[.int .i64 ra, .string ⟨rp.toArray⟩, .int .i64 rs] 29)).cell? ⟨x6.heap.size, 2, none⟩ = some (.int .i64 rs)) := Lib.hid ⟨by rw [World.cell?_alloc_new]; rfl, by rw [World.cell?_alloc_new]; rfl, by rw [World.cell?_alloc_new]; rfl⟩
    have HGXo := HGX.out
    obtain ⟨hgx_0, hgx_1, hgx_2⟩ := HGXo
    have HWXo := HWX.out
    obtain ⟨hwx_0, hwx_1, hwx_2⟩ := HWXo
    go_wp2_with (fail)
    go_at_call 11
    refine (Rul.eq_one (ra) (⟨rp.toArray⟩) (rs) _).mono ?_
    rintro e x8 ⟨rfl, b8⟩
    have hs8 := b8.size
    clear hgx_0 hgx_1 hgx_2
    clear hwx_0 hwx_1 hwx_2
    have HX1 := Lib.hid (And.intro ((b8.cell (p := ⟨w.heap.size, 0, none⟩) (Rec.lt_of_cell (HX1.out.1))).trans (HX1.out.1)) (And.intro ((b8.cell (p := ⟨w.heap.size, 1, none⟩) (Rec.lt_of_cell (HX1.out.2.1))).trans (HX1.out.2.1)) (And.intro ((b8.cell (p := ⟨w.heap.size, 2, none⟩) (Rec.lt_of_cell (HX1.out.2.2.1))).trans (HX1.out.2.2.1)) ((b8.cell (p := ⟨w.heap.size, 3, none⟩) (Rec.lt_of_cell (HX1.out.2.2.2))).trans (HX1.out.2.2.2)))))
    have HY0 := Lib.hid (Rul.holds_below HY0.out (b8.mono (by omega)))
    have HY1 := Lib.hid (Flds.holds_below HY1.out (b8.mono (by omega)))
    have HWX := Lib.hid (And.intro ((b8.cell (p := ⟨gw, 0, none⟩) (Rec.lt_of_cell (HWX.out.1))).trans (HWX.out.1)) (And.intro ((b8.cell (p := ⟨gw, 1, none⟩) (Rec.lt_of_cell (HWX.out.2.1))).trans (HWX.out.2.1)) ((b8.cell (p := ⟨gw, 2, none⟩) (Rec.lt_of_cell (HWX.out.2.2))).trans (HWX.out.2.2))))
    have HX0 := Lib.hid (Rul.holds_below HX0.out (b8.mono (by omega)))
    have HX := Lib.hid (Flds.holds_below HX.out (b8.mono (by omega)))
    have HZX := Lib.hid (And.intro ((b8.cell (p := ⟨x4.heap.size, 0, none⟩) (Rec.lt_of_cell (HZX.out.1))).trans (HZX.out.1)) (And.intro ((b8.cell (p := ⟨x4.heap.size, 1, none⟩) (Rec.lt_of_cell (HZX.out.2.1))).trans (HZX.out.2.1)) (And.intro ((b8.cell (p := ⟨x4.heap.size, 2, none⟩) (Rec.lt_of_cell (HZX.out.2.2.1))).trans (HZX.out.2.2.1)) ((b8.cell (p := ⟨x4.heap.size, 3, none⟩) (Rec.lt_of_cell (HZX.out.2.2.2))).trans (HZX.out.2.2.2)))))
    have HGX := Lib.hid (And.intro ((b8.cell (p := ⟨x6.heap.size, 0, none⟩) (Rec.lt_of_cell (HGX.out.1))).trans (HGX.out.1)) (And.intro ((b8.cell (p := ⟨x6.heap.size, 1, none⟩) (Rec.lt_of_cell (HGX.out.2.1))).trans (HGX.out.2.1)) ((b8.cell (p := ⟨x6.heap.size, 2, none⟩) (Rec.lt_of_cell (HGX.out.2.2))).trans (HGX.out.2.2))))
    have HB := Lib.hid (Base.then_below HB.out b8)
    clear b8
    go_wp2_with (fail)
    go_at_call 8
    refine (Rul.copy _ _ _ _ HY0.out HL0.out).mono ?_
    rintro e x9 ⟨vC0, rfl, oC0, b9⟩
    have hs9 := b9.size
    have HX1 := Lib.hid (And.intro ((b9.cell (p := ⟨w.heap.size, 0, none⟩) (Rec.lt_of_cell (HX1.out.1))).trans (HX1.out.1)) (And.intro ((b9.cell (p := ⟨w.heap.size, 1, none⟩) (Rec.lt_of_cell (HX1.out.2.1))).trans (HX1.out.2.1)) (And.intro ((b9.cell (p := ⟨w.heap.size, 2, none⟩) (Rec.lt_of_cell (HX1.out.2.2.1))).trans (HX1.out.2.2.1)) ((b9.cell (p := ⟨w.heap.size, 3, none⟩) (Rec.lt_of_cell (HX1.out.2.2.2))).trans (HX1.out.2.2.2)))))
    have HY0 := Lib.hid (Rul.holds_below HY0.out (b9.mono (by omega)))
    have HY1 := Lib.hid (Flds.holds_below HY1.out (b9.mono (by omega)))
    have HX0 := Lib.hid (Rul.holds_below HX0.out (b9.mono (by omega)))
    have HX := Lib.hid (Flds.holds_below HX.out (b9.mono (by omega)))
    have HZX := Lib.hid (And.intro ((b9.cell (p := ⟨x4.heap.size, 0, none⟩) (Rec.lt_of_cell (HZX.out.1))).trans (HZX.out.1)) (And.intro ((b9.cell (p := ⟨x4.heap.size, 1, none⟩) (Rec.lt_of_cell (HZX.out.2.1))).trans (HZX.out.2.1)) (And.intro ((b9.cell (p := ⟨x4.heap.size, 2, none⟩) (Rec.lt_of_cell (HZX.out.2.2.1))).trans (HZX.out.2.2.1)) ((b9.cell (p := ⟨x4.heap.size, 3, none⟩) (Rec.lt_of_cell (HZX.out.2.2.2))).trans (HZX.out.2.2.2)))))
    have HB := Lib.hid (Base.then_below HB.out b9)
    clear b9
    have HC0 := Lib.hid (Rul.own_holds oC0)
    clear oC0
    go_wp2_with (fail)
    go_at_call 12
    refine (Rul.eq_same vX0 vC0 _ _ z0 _ HX0.out HC0.out HL0.out).mono ?_
    rintro e x10 ⟨rfl, b10⟩
    have hs10 := b10.size
    have HX1 := Lib.hid (And.intro ((b10.cell (p := ⟨w.heap.size, 0, none⟩) (Rec.lt_of_cell (HX1.out.1))).trans (HX1.out.1)) (And.intro ((b10.cell (p := ⟨w.heap.size, 1, none⟩) (Rec.lt_of_cell (HX1.out.2.1))).trans (HX1.out.2.1)) (And.intro ((b10.cell (p := ⟨w.heap.size, 2, none⟩) (Rec.lt_of_cell (HX1.out.2.2.1))).trans (HX1.out.2.2.1)) ((b10.cell (p := ⟨w.heap.size, 3, none⟩) (Rec.lt_of_cell (HX1.out.2.2.2))).trans (HX1.out.2.2.2)))))
    have HY0 := Lib.hid (Rul.holds_below HY0.out (b10.mono (by omega)))
    have HY1 := Lib.hid (Flds.holds_below HY1.out (b10.mono (by omega)))
    have HX := Lib.hid (Flds.holds_below HX.out (b10.mono (by omega)))
    have HZX := Lib.hid (And.intro ((b10.cell (p := ⟨x4.heap.size, 0, none⟩) (Rec.lt_of_cell (HZX.out.1))).trans (HZX.out.1)) (And.intro ((b10.cell (p := ⟨x4.heap.size, 1, none⟩) (Rec.lt_of_cell (HZX.out.2.1))).trans (HZX.out.2.1)) (And.intro ((b10.cell (p := ⟨x4.heap.size, 2, none⟩) (Rec.lt_of_cell (HZX.out.2.2.1))).trans (HZX.out.2.2.1)) ((b10.cell (p := ⟨x4.heap.size, 3, none⟩) (Rec.lt_of_cell (HZX.out.2.2.2))).trans (HZX.out.2.2.2)))))
    have HB := Lib.hid (Base.then_below HB.out b10)
    clear b10
    have HX1 : Hid (x10.drew.cell? ⟨w.heap.size, 0, none⟩ = some (.string ⟨m1.toArray⟩) ∧ x10.drew.cell? ⟨w.heap.size, 1, none⟩ = some (.string ⟨h1.toArray⟩) ∧ x10.drew.cell? ⟨w.heap.size, 2, none⟩ = some (.string ⟨t1.toArray⟩) ∧ x10.drew.cell? ⟨w.heap.size, 3, none⟩ = some (u1)) := Lib.hid HX1.out
    have HZX : Hid (x10.drew.cell? ⟨x4.heap.size, 0, none⟩ = some (.string ⟨m1.toArray⟩) ∧ x10.drew.cell? ⟨x4.heap.size, 1, none⟩ = some (.string ⟨h1.toArray⟩) ∧ x10.drew.cell? ⟨x4.heap.size, 2, none⟩ = some (.string ⟨t1.toArray⟩) ∧ x10.drew.cell? ⟨x4.heap.size, 3, none⟩ = some ((.slice aX l1.length cpX))) := Lib.hid HZX.out
    have HY1 : Hid (Flds.Holds x10.drew w.heap.size u1 l1) := Lib.hid HY1.out
    have HX : Hid (Flds.Holds x10.drew _ (.slice aX l1.length cpX) l1) := Lib.hid HX.out
    have HB := Lib.hid (Rec.below_drew HB.out)
    have hdz11 : x10.drew.heap.size = x10.heap.size := rfl
    have qhx1_0 := HX1.out.1
    have qhx1_1 := HX1.out.2.1
    have qhx1_2 := HX1.out.2.2.1
    have qhx1_3 := HX1.out.2.2.2
    have qhzx_0 := HZX.out.1
    have qhzx_1 := HZX.out.2.1
    have qhzx_2 := HZX.out.2.2.1
    have qhzx_3 := HZX.out.2.2.2
    go_wp2
    go_region_with (first | (go_at_call 9; refine (Msg.copy_req m1 h1 t1 u1 l1 w.heap.size _ HY1.out (by have h9 := HB.out.size; omega) HL1.out).mono ?_; rintro e xq ⟨vC, rfl, oC, bq⟩; clear qhx1_0 qhx1_1 qhx1_2 qhx1_3 qhzx_0 qhzx_1 qhzx_2 qhzx_3; have hqz := bq.size; have HX1 := Lib.hid (And.intro ((bq.cell (p := ⟨w.heap.size, 0, none⟩) (Rec.lt_of_cell (HX1.out.1))).trans (HX1.out.1)) (And.intro ((bq.cell (p := ⟨w.heap.size, 1, none⟩) (Rec.lt_of_cell (HX1.out.2.1))).trans (HX1.out.2.1)) (And.intro ((bq.cell (p := ⟨w.heap.size, 2, none⟩) (Rec.lt_of_cell (HX1.out.2.2.1))).trans (HX1.out.2.2.1)) ((bq.cell (p := ⟨w.heap.size, 3, none⟩) (Rec.lt_of_cell (HX1.out.2.2.2))).trans (HX1.out.2.2.2))))); have HZX := Lib.hid (And.intro ((bq.cell (p := ⟨x4.heap.size, 0, none⟩) (Rec.lt_of_cell (HZX.out.1))).trans (HZX.out.1)) (And.intro ((bq.cell (p := ⟨x4.heap.size, 1, none⟩) (Rec.lt_of_cell (HZX.out.2.1))).trans (HZX.out.2.1)) (And.intro ((bq.cell (p := ⟨x4.heap.size, 2, none⟩) (Rec.lt_of_cell (HZX.out.2.2.1))).trans (HZX.out.2.2.1)) ((bq.cell (p := ⟨x4.heap.size, 3, none⟩) (Rec.lt_of_cell (HZX.out.2.2.2))).trans (HZX.out.2.2.2))))); have HY1 := Lib.hid (Flds.holds_below HY1.out (bq.mono (by have h9 := HB.out.size; omega))); have HX := Lib.hid (Flds.holds_below HX.out (bq.mono (by have h9 := HB.out.size; omega))); have HB := Lib.hid (Base.then_below HB.out bq); have HC := Lib.hid (Flds.own_holds oC); have qhx1_0 := HX1.out.1; have qhx1_1 := HX1.out.2.1; have qhx1_2 := HX1.out.2.2.1; have qhx1_3 := HX1.out.2.2.2; have qhzx_0 := HZX.out.1; have qhzx_1 := HZX.out.2.1; have qhzx_2 := HZX.out.2.2.1; have qhzx_3 := HZX.out.2.2.2; clear bq oC) | (go_at_call 13; refine (Msg.eq_req m1 h1 t1 (.slice aX l1.length cpX) l1 vC _ _ _ HX.out HC.out (by have h9 := HB.out.size; omega) (by omega) HL1.out).mono ?_; rintro e xq ⟨rfl, bq⟩; have HB := Lib.hid (Base.then_below HB.out bq); clear bq HX HC qhx1_0 qhx1_1 qhx1_2 qhx1_3 qhzx_0 qhzx_1 qhzx_2 qhzx_3))
    all_goals go_wp2
    all_goals go_ret
    all_goals exact ⟨rfl, HB.out⟩

set_option maxRecDepth 1000000 in
theorem lifted (os : Os) (started : os.Started) (H : Type) (enc : TypeId × Value → H) :
    ReturnsInHanded {} Tryz.checked os 3 .any (fun w args => (Rows.fnExactRuleForSpec.pre enc Tryz.prog Tryz.f3 [] false w args ∧ laidMetH Tryz.prog Rows.fnExactRuleForRow.laid w) ∧ sizedMet enc Tryz.prog Tryz.f3 (OpenSpec.ofChange Rows.fnExactRuleForSpec) false w args)
      (Rows.fnExactRuleForSpec.post enc Tryz.prog Tryz.f3 false true false false) := by
  refine Sh.and_shaped (C := Tryz.checked) (X := fun w _ => laidMetH Tryz.prog Rows.fnExactRuleForRow.laid w) (fun _ _ _ hh h => h.of_heap hh) own started (by kernel_rfl) Tryz.func3
    (ChangeSpec.witness_shaped (enc := enc) (C := Tryz.checked) (os := os) (X := fun w _ => laidMetH Tryz.prog Rows.fnExactRuleForRow.laid w) false (World.laidAll Tryz.prog os Rows.fnExactRuleForRow.laid) #[.slice none 0 0, .agg #[.string ⟨#[]⟩, .string ⟨#[]⟩, .string ⟨#[]⟩, .slice none 0 0]] 8 (World.laidAll_os _ _ _) (World.shaped_of_ZipB (by kernel_rfl) (by kernel_rfl)) (by kernel_rfl) (by kernel_rfl) (by kernel_rfl)
      (by rw [MakeChecks.laidMetH_plain _ _ _ (by kernel_rfl)]; exact laidMet_laidAll _ (by kernel_rfl) (by kernel_rfl))) ?_
  intro W base args ds gs before hval0 hW hsh hL
  have hval : ∀ (j : Nat) t v, Tryz.f3.params[j]? = some t → args[j]? = some v → Value.okWide Tryz.prog W .any base t v := hval0
  have hW' := hW
  obtain ⟨p, q, hA0, hV, rfl, hfz, hnd⟩ := hW
  have hA : DataW.TrodAll enc Tryz.prog W 0 (fun _ => true) true Tryz.f3.params.toList args.toList ds p := hA0
  rw [Tryz.params3] at hA hval
  obtain ⟨v0, vs0, d0, ds0, p0, q0, hargs, rfl, rfl, h0, r0⟩ := trodAll_cons hA
  obtain ⟨v1, vs1, d1, ds1, p1, q1, rfl, rfl, rfl, h1, r1⟩ := trodAll_cons r0
  obtain ⟨rfl, rfl, rfl⟩ := trodAll_nil r1
  obtain rfl : args = #[v0, v1] := by cases args; simp_all
  obtain ⟨rfl, rfl⟩ := trodVars_none hV
  have k0 := h0
  obtain ⟨z0, y0, w01, w02⟩ := Rul.open_arg (hval 0 22 v0 rfl rfl) h0
  have w0 := And.intro w01 w02
  have k1 := h1
  obtain ⟨m1, hh1, t1, u1, l1, rfl, y1, w1⟩ := Msg.open_req (hval 1 25 v1 rfl rfl) h1
  clear hA0 hval0
  simp only [List.append_nil] at hW'
  have hL' : laidMet Tryz.prog Rows.fnExactRuleForRow.laid W := by rw [← MakeChecks.laidMetH_plain _ _ _ (by kernel_rfl)]; exact hL
  refine (walk v0 z0 m1 hh1 t1 u1 l1 w0 w1 W y0 y1 (Laid.errs hL' (by simp [Rows.fnExactRuleForRow]) (by simp [Rows.fnExactRuleForRow])) (Sh.mxl_of hsh)).mono fun e W' ⟨he, hb⟩ => ?_
  subst he
  exact ⟨_, rfl, ⟨_, _, _, [], _, [], hW', (trodAll_cons_mk (shut_bool Tryz.underlying4 _) trodAll_mk0), (trodAll_cons_mk (Below.trod laidOut (by kernel_rfl) (of_decide_eq_true (by kernel_rfl)) k0 hb (fun x hx => hW'.lt x (by simp [hx]))) (trodAll_cons_mk (Below.trod laidOut (by kernel_rfl) (of_decide_eq_true (by kernel_rfl)) k1 hb (fun x hx => hW'.lt x (by simp [hx]))) trodAll_mk0)), rfl, hb.frame _, fun h => by cases h⟩⟩

theorem over : Rows.fnExactRuleForRow.holds Tryz.pinned (OpenSpec.ofChange Rows.fnExactRuleForSpec) :=
  OpenClaim.holds_of_wide 3 Tryz.f3 rfl rfl rfl rfl rfl rfl rfl ⟨rfl, rfl, rfl, rfl, rfl⟩ rfl rfl rfl rfl rfl (by kernel_rfl) Tryz.func3 (by kernel_rfl)
    (of_decide_eq_true (by kernel_rfl)) (by unfold Func.isWrapper; first | (rw [if_pos (by decide +kernel)]; kernel_rfl) | (rw [if_neg (by decide +kernel)]; exact ⟨rfl, rfl⟩))
    (fun os started H enc _ => lifted os started H enc)

/-- The given statement: the law's card, tied. -/
theorem proved : Rows.FnExactRuleForCardSaid :=
  Claim7.holds_tied_plain_at .later [] _ true _ _
    over (fun _ h => by cases h) (by kernel_rfl) (fun _ h => by cases h) fnExactRuleFor_row_tie rfl ⟨rfl, rfl⟩ (by kernel_rfl) rfl
    (fun f fn hf hfn => by
      obtain rfl : f = 3 := Option.some.inj ((show Tryz.prog.funcNamed "loop.example/g03012/laws.FnExactRuleFor" = some 3 by kernel_rfl).symm.trans hf) |>.symm
      obtain rfl : fn = Tryz.f3 := (Option.some.inj (Tryz.func3.symm.trans hfn)).symm
      exact ⟨by kernel_rfl, fun j t ht => by
        rw [Tryz.params3] at ht
        have hm : t ∈ [22, 25] := by simpa using Array.mem_of_getElem? ht
        have hall : ([22, 25].all fun u => !Tryz.prog.wantsStandIn u) = true := by kernel_rfl
        exact (show Tryz.prog.wantsStandIn t = false by simpa using List.all_eq_true.1 hall t hm)⟩)
    (by kernel_rfl)
#print axioms proved
end Go.Proofs.YtindnhmigljkaaaGreatDoor.fnExactRuleFor
