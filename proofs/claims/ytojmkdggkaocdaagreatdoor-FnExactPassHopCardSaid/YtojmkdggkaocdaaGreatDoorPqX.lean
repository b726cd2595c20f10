/-
  CONTRACTS AND PLAIN FACTS, several texts in one; each says in its own words what it proves.
-/
import Derived.Test.YtojmkdggkaocdaaGreatDoorPqA
import Derived.Carry
import Derived.Test.YtojmkdggkaocdaaGreatDoorPqC
import Derived.Test.YtojmkdggkaocdaaGreatDoorPqD
import Derived.Test.YtojmkdggkaocdaaGreatDoorPqV
import Derived.Test.YtojmkdggkaocdaaGreatDoorPqW
import Derived.Test.YtojmkdggkaocdaaGreatDoorPqN
import Derived.Test.YtojmkdggkaocdaaGreatDoorPqO
import Derived.Test.YtojmkdggkaocdaaGreatDoorTie
import Derived.Test.YtojmkdggkaocdaaGreatDoorCards
import Derived.LaidMore
import Derived.Lay
import Derived.OpenVars
import Derived.Stop.LaidErr
import Derived.Deep.DeepCutAuto
import Derived.RegionTactic
import Derived.Deep.RegionHeldLaw
import Derived.Deep.RegionHeld3
set_option linter.unusedSimpArgs false
set_option linter.unusedVariables false

/-
  PROVED: the walk of the law of PassHop: it returns true and leaves its arguments as they were. Mine.
-/
namespace Go.Proofs.YtojmkdggkaocdaaGreatDoor.fnExactPassHop
open Go.ChangeShapes Go.WideShapes Go.ChangeAt Go.RowKit
set_option linter.unusedVariables false
set_option maxRecDepth 1000000


/-- A block that was laid in front of a call. -/
theorem with_alloc {P : Program} {f : FuncId} {args : Array Value} {W : World} {a : Array Value} {T : TypeId} {E : Ending → World → Prop} (h : Below W.heap.size W (W.alloc (.cells a T)) → Kept.Box (W.alloc (.cells a T)) W.heap.size a.toList → Calls P f args (W.alloc (.cells a T)) E) : Calls P f args (W.alloc (.cells a T)) E :=
  h ((Below.refl _ _).alloc (Nat.le_refl _) _) Kept.Box.new
theorem with_drew {P : Program} {f : FuncId} {args : Array Value} {W : World} {a : Array Value} {T : TypeId} {E : Ending → World → Prop} (h : Below W.heap.size W (W.alloc (.cells a T)).drew → Kept.Box (W.alloc (.cells a T)).drew W.heap.size a.toList → Calls P f args (W.alloc (.cells a T)).drew E) : Calls P f args (W.alloc (.cells a T)).drew E :=
  h (Rec.below_drew ((Below.refl _ _).alloc (Nat.le_refl _) _)) (Kept.Box.new.below (Rec.below_drew (Below.refl _ _)))
set_option maxHeartbeats 16000000 in
theorem walk (c0 : Int) (u0 : Value) (l0 : List Msg.F) (b0 : List UInt8) (a1 : Int) (f2 : Hps.T) (w0 : Msg.Ok_rsp c0 l0 b0) (w1 : (Lit.int .i64 a1).wf = true) (w2 : Hps.Ok f2) (w : World) (y0 : Flds.Holds w w.heap.size u0 l0) (ht : Age.Tabs w) (her : Par.Errs w) :
    Calls Tryz.prog 3 #[.agg #[.int .i64 c0, u0, .string ⟨b0.toArray⟩], .int .i64 a1, Hps.fv f2] w fun e w' => e = .returned (.bool true) ∧ Below w.heap.size w w' := by
  obtain ⟨x2, y2, k2⟩ := f2
  unfold Hps.fv
  dsimp only
  have HW0 := Lib.hid w0
  have HY0 := Lib.hid y0
  have HTB := Lib.hid (fun W (hb : Below w.heap.size w W) => Age.tabs_below ht hb)
  have HER := Lib.hid (fun W (hb : Below w.heap.size w W) => Par.errs_below her hb)
  clear w0 w1 w2 y0 ht her
  have HB : Hid (Below w.heap.size w ((w.alloc (.cells #[.int .i64 c0, u0, .string ⟨b0.toArray⟩] 24)).alloc (.cells #[.int .i64 x2, .int .i64 y2, .int .i64 k2] 26))) := Lib.hid (((Below.refl w.heap.size w).alloc (by simp) (.cells #[.int .i64 c0, u0, .string ⟨b0.toArray⟩] 24)).alloc (by simp) (.cells #[.int .i64 x2, .int .i64 y2, .int .i64 k2] 26))
  have hz0' : w.heap.size + 2 = ((w.alloc (.cells #[.int .i64 c0, u0, .string ⟨b0.toArray⟩] 24)).alloc (.cells #[.int .i64 x2, .int .i64 y2, .int .i64 k2] 26)).heap.size := by simp
  have k0 := (Kept.Box.new (w := w) (T := 24) (a := #[.int .i64 c0, u0, .string ⟨b0.toArray⟩])).alloc (.cells #[.int .i64 x2, .int .i64 y2, .int .i64 k2] 26)
  have k1 := Kept.Box.new (w := (w.alloc (.cells #[.int .i64 c0, u0, .string ⟨b0.toArray⟩] 24))) (T := 26) (a := #[.int .i64 x2, .int .i64 y2, .int .i64 k2])
  rw [show (w.alloc (.cells #[.int .i64 c0, u0, .string ⟨b0.toArray⟩] 24)).heap.size = w.heap.size + 1 by simp] at k1
  have HX0 : Hid (((w.alloc (.cells #[.int .i64 c0, u0, .string ⟨b0.toArray⟩] 24)).alloc (.cells #[.int .i64 x2, .int .i64 y2, .int .i64 k2] 26)).cell? ⟨w.heap.size, 0, none⟩ = some (.int .i64 c0) ∧ ((w.alloc (.cells #[.int .i64 c0, u0, .string ⟨b0.toArray⟩] 24)).alloc (.cells #[.int .i64 x2, .int .i64 y2, .int .i64 k2] 26)).cell? ⟨w.heap.size, 1, none⟩ = some (u0) ∧ ((w.alloc (.cells #[.int .i64 c0, u0, .string ⟨b0.toArray⟩] 24)).alloc (.cells #[.int .i64 x2, .int .i64 y2, .int .i64 k2] 26)).cell? ⟨w.heap.size, 2, none⟩ = some (.string ⟨b0.toArray⟩)) := Lib.hid ⟨k0.cell 0 _ rfl, k0.cell 1 _ rfl, k0.cell 2 _ rfl⟩
  have HX2 : Hid (((w.alloc (.cells #[.int .i64 c0, u0, .string ⟨b0.toArray⟩] 24)).alloc (.cells #[.int .i64 x2, .int .i64 y2, .int .i64 k2] 26)).cell? ⟨w.heap.size + 1, 0, none⟩ = some (.int .i64 x2) ∧ ((w.alloc (.cells #[.int .i64 c0, u0, .string ⟨b0.toArray⟩] 24)).alloc (.cells #[.int .i64 x2, .int .i64 y2, .int .i64 k2] 26)).cell? ⟨w.heap.size + 1, 1, none⟩ = some (.int .i64 y2) ∧ ((w.alloc (.cells #[.int .i64 c0, u0, .string ⟨b0.toArray⟩] 24)).alloc (.cells #[.int .i64 x2, .int .i64 y2, .int .i64 k2] 26)).cell? ⟨w.heap.size + 1, 2, none⟩ = some (.int .i64 k2)) := Lib.hid ⟨k1.cell 0 _ rfl, k1.cell 1 _ rfl, k1.cell 2 _ rfl⟩
  clear k0 k1
  have HY0 := Lib.hid (Flds.holds_below HY0.out (HB.out.mono (Nat.le_refl _)))
  have hszw := HB.out.size
  go_enter Tryz.func3, Tryz.ntmps3
  have HX0o := HX0.out
  obtain ⟨hx0_0, hx0_1, hx0_2⟩ := HX0o
  have HX2o := HX2.out
  obtain ⟨hx2_0, hx2_1, hx2_2⟩ := HX2o
  go_wp2_with (fail)
  go_at_call 7
  refine (Msg.size_rsp c0 u0 l0 b0 _ w.heap.size _ HY0.out (by omega) HW0.out (by decide) (by decide)).mono ?_
  rintro e x1 ⟨z_0, rfl, hz0, b1⟩
  have hs1 := b1.size
  clear hx0_0 hx0_1 hx0_2
  clear hx2_0 hx2_1 hx2_2
  have HX0 := Lib.hid (And.intro ((b1.cell (p := ⟨w.heap.size, 0, none⟩) (Rec.lt_of_cell (HX0.out.1))).trans (HX0.out.1)) (And.intro ((b1.cell (p := ⟨w.heap.size, 1, none⟩) (Rec.lt_of_cell (HX0.out.2.1))).trans (HX0.out.2.1)) ((b1.cell (p := ⟨w.heap.size, 2, none⟩) (Rec.lt_of_cell (HX0.out.2.2))).trans (HX0.out.2.2))))
  have HX2 := Lib.hid (And.intro ((b1.cell (p := ⟨w.heap.size + 1, 0, none⟩) (Rec.lt_of_cell (HX2.out.1))).trans (HX2.out.1)) (And.intro ((b1.cell (p := ⟨w.heap.size + 1, 1, none⟩) (Rec.lt_of_cell (HX2.out.2.1))).trans (HX2.out.2.1)) ((b1.cell (p := ⟨w.heap.size + 1, 2, none⟩) (Rec.lt_of_cell (HX2.out.2.2))).trans (HX2.out.2.2))))
  have HY0 := Lib.hid (Flds.holds_below HY0.out (b1.mono (by omega)))
  have HB := Lib.hid (Base.then_below HB.out b1)
  clear b1
  rcases hz0 with hz0 | ⟨hz0, ht0⟩
  · go_wp2
    go_ret
    exact ⟨rfl, HB.out⟩
  have hzn0 : ¬ z_0 < 0 := by omega
  have HT0 : Hid (Flds.total l0 ≤ 1048576) := Lib.hid (by omega)
  clear ht0
  have HL0 : Hid (l0.length ≤ 1048576) := Lib.hid (by have := HT0.out; unfold Flds.total at this; omega)
  have HPS := Lib.hid (fun v B W (h : Flds.Holds W B v l0) (hB : B ≤ W.heap.size) => Psh.spec_psh c0 v l0 b0 a1 x2 y2 k2 B W h hB HT0.out)
  unfold Psh.HopEnd at HPS
  have HPI := Lib.hid (fun v B W (h : Flds.Holds W B v l0) (hB : B ≤ W.heap.size) (hb : Below w.heap.size w W) => Psh.impl_psh c0 v l0 b0 a1 x2 y2 k2 B W h hB HT0.out (HTB.out W hb) (HER.out W hb))
  unfold Psh.HopEnd at HPI
  have HK : Hid ((Psh.pshl x2 y2 k2 a1 l0).length ≤ 1048577) := Lib.hid (Nat.le_trans (Psh.pshl_len _ _ _ _ _) (by have := HL0.out; omega))
  generalize Psh.pshl x2 y2 k2 a1 l0 = g0 at HPS HPI HK
  generalize Psh.psht x2 y2 k2 a1 = tt at HPS HPI
  have hsB2 := HB.out.size
  have hl2_HX0 := Rec.lt_of_cell (HX0.out.1)
  have hl2_HX2 := Rec.lt_of_cell (HX2.out.1)
  have FB : Hid (∀ u : World, Below x1.heap.size x1 u → (u.cell? ⟨w.heap.size, 0, none⟩ = some (.int .i64 c0) ∧ u.cell? ⟨w.heap.size, 1, none⟩ = some (u0) ∧ u.cell? ⟨w.heap.size, 2, none⟩ = some (.string ⟨b0.toArray⟩)) ∧ (u.cell? ⟨w.heap.size + 1, 0, none⟩ = some (.int .i64 x2) ∧ u.cell? ⟨w.heap.size + 1, 1, none⟩ = some (.int .i64 y2) ∧ u.cell? ⟨w.heap.size + 1, 2, none⟩ = some (.int .i64 k2)) ∧ (Flds.Holds u w.heap.size u0 l0) ∧ Below w.heap.size w u) := Lib.hid (fun u hb => ⟨⟨(hb.cell (p := ⟨w.heap.size, 0, none⟩) (Rec.lt_of_cell (HX0.out.1))).trans (HX0.out.1), (hb.cell (p := ⟨w.heap.size, 1, none⟩) (Rec.lt_of_cell (HX0.out.2.1))).trans (HX0.out.2.1), (hb.cell (p := ⟨w.heap.size, 2, none⟩) (Rec.lt_of_cell (HX0.out.2.2))).trans (HX0.out.2.2)⟩, ⟨(hb.cell (p := ⟨w.heap.size + 1, 0, none⟩) (Rec.lt_of_cell (HX2.out.1))).trans (HX2.out.1), (hb.cell (p := ⟨w.heap.size + 1, 1, none⟩) (Rec.lt_of_cell (HX2.out.2.1))).trans (HX2.out.2.1), (hb.cell (p := ⟨w.heap.size + 1, 2, none⟩) (Rec.lt_of_cell (HX2.out.2.2))).trans (HX2.out.2.2)⟩, Flds.holds_below HY0.out (hb.mono (by omega)), Base.then_below HB.out hb⟩)
  go_upto_region 5 with fail
  go_cut [8, 9] (fun s8 s9 wx => ∃ g aR cpR, s8 = .pointer (some ⟨g, 0, none⟩) ∧ s9 = .int .i64 tt ∧ x1.heap.size ≤ g ∧ Hid (∀ k, Value.ownBlock (.slice aR g0.length cpR) = some k → k ≠ g) ∧ Hid (wx.cell? ⟨g, 0, none⟩ = some (.int .i64 c0) ∧ wx.cell? ⟨g, 1, none⟩ = some ((.slice aR g0.length cpR)) ∧ wx.cell? ⟨g, 2, none⟩ = some (.string ⟨b0.toArray⟩)) ∧ Hid (Flds.Own wx x1.heap.size (.slice aR g0.length cpR) g0) ∧ Hid (Below x1.heap.size x1 wx))
  case first =>
    have HC5 : Hid (Below x1.heap.size x1 x1.drew) := Lib.hid (Rec.below_drew (Below.refl _ _))
    have qc0 := (FB.out _ HC5.out).1.1
    have qc1 := (FB.out _ HC5.out).1.2.1
    have qc2 := (FB.out _ HC5.out).1.2.2
    have qc3 := (FB.out _ HC5.out).2.1.1
    have qc4 := (FB.out _ HC5.out).2.1.2.1
    have qc5 := (FB.out _ HC5.out).2.1.2.2
    have qk0 : ∀ o : Obj, (x1.drew.alloc o).cell? ⟨w.heap.size, 0, none⟩ = some (.int .i64 c0) := fun o => (World.cell?_alloc_lt _ _ _ (Rec.lt_of_cell qc0)).trans qc0
    have qk1 : ∀ o : Obj, (x1.drew.alloc o).cell? ⟨w.heap.size, 1, none⟩ = some (u0) := fun o => (World.cell?_alloc_lt _ _ _ (Rec.lt_of_cell qc1)).trans qc1
    have qk2 : ∀ o : Obj, (x1.drew.alloc o).cell? ⟨w.heap.size, 2, none⟩ = some (.string ⟨b0.toArray⟩) := fun o => (World.cell?_alloc_lt _ _ _ (Rec.lt_of_cell qc2)).trans qc2
    have qk3 : ∀ o : Obj, (x1.drew.alloc o).cell? ⟨w.heap.size + 1, 0, none⟩ = some (.int .i64 x2) := fun o => (World.cell?_alloc_lt _ _ _ (Rec.lt_of_cell qc3)).trans qc3
    have qk4 : ∀ o : Obj, (x1.drew.alloc o).cell? ⟨w.heap.size + 1, 1, none⟩ = some (.int .i64 y2) := fun o => (World.cell?_alloc_lt _ _ _ (Rec.lt_of_cell qc4)).trans qc4
    have qk5 : ∀ o : Obj, (x1.drew.alloc o).cell? ⟨w.heap.size + 1, 2, none⟩ = some (.int .i64 k2) := fun o => (World.cell?_alloc_lt _ _ _ (Rec.lt_of_cell qc5)).trans qc5
    have qe0 : ∀ o : Obj, ((x1.alloc o).drew).cell? ⟨w.heap.size, 0, none⟩ = some (.int .i64 c0) := fun o => (World.cell?_alloc_lt _ _ _ (Rec.lt_of_cell ((FB.out _ (Below.refl _ _)).1.1))).trans ((FB.out _ (Below.refl _ _)).1.1)
    have qe1 : ∀ o : Obj, ((x1.alloc o).drew).cell? ⟨w.heap.size, 1, none⟩ = some (u0) := fun o => (World.cell?_alloc_lt _ _ _ (Rec.lt_of_cell ((FB.out _ (Below.refl _ _)).1.2.1))).trans ((FB.out _ (Below.refl _ _)).1.2.1)
    have qe2 : ∀ o : Obj, ((x1.alloc o).drew).cell? ⟨w.heap.size, 2, none⟩ = some (.string ⟨b0.toArray⟩) := fun o => (World.cell?_alloc_lt _ _ _ (Rec.lt_of_cell ((FB.out _ (Below.refl _ _)).1.2.2))).trans ((FB.out _ (Below.refl _ _)).1.2.2)
    have qe3 : ∀ o : Obj, ((x1.alloc o).drew).cell? ⟨w.heap.size + 1, 0, none⟩ = some (.int .i64 x2) := fun o => (World.cell?_alloc_lt _ _ _ (Rec.lt_of_cell ((FB.out _ (Below.refl _ _)).2.1.1))).trans ((FB.out _ (Below.refl _ _)).2.1.1)
    have qe4 : ∀ o : Obj, ((x1.alloc o).drew).cell? ⟨w.heap.size + 1, 1, none⟩ = some (.int .i64 y2) := fun o => (World.cell?_alloc_lt _ _ _ (Rec.lt_of_cell ((FB.out _ (Below.refl _ _)).2.1.2.1))).trans ((FB.out _ (Below.refl _ _)).2.1.2.1)
    have qe5 : ∀ o : Obj, ((x1.alloc o).drew).cell? ⟨w.heap.size + 1, 2, none⟩ = some (.int .i64 k2) := fun o => (World.cell?_alloc_lt _ _ _ (Rec.lt_of_cell ((FB.out _ (Below.refl _ _)).2.1.2.2))).trans ((FB.out _ (Below.refl _ _)).2.1.2.2)
    go_wp2
    go_region_held3 (fun u => u.cell? ⟨w.heap.size, 0, none⟩ = some (.int .i64 c0) ∧ u.cell? ⟨w.heap.size, 1, none⟩ = some (u0) ∧ u.cell? ⟨w.heap.size, 2, none⟩ = some (.string ⟨b0.toArray⟩) ∧ u.cell? ⟨w.heap.size + 1, 0, none⟩ = some (.int .i64 x2) ∧ u.cell? ⟨w.heap.size + 1, 1, none⟩ = some (.int .i64 y2) ∧ u.cell? ⟨w.heap.size + 1, 2, none⟩ = some (.int .i64 k2))
      (first | with_reducible exact ⟨qc0, qc1, qc2, qc3, qc4, qc5⟩ | with_reducible exact ⟨qk0 _, qk1 _, qk2 _, qk3 _, qk4 _, qk5 _⟩ | with_reducible exact ⟨qe0 _, qe1 _, qe2 _, qe3 _, qe4 _, qe5 _⟩ | (refine ⟨?_, ?_, ?_, ?_, ?_, ?_⟩ <;> (with_reducible refine (World.cell?_setCell_other _ _ _ _ (fun e => by have h8 := congrArg Addr.block e; have h9 := HC5.out.size; simp at h8; omega)).trans ((World.cell?_setCell_other _ _ _ _ (fun e => by have h8 := congrArg Addr.block e; have h9 := HC5.out.size; simp at h8; omega)).trans ((World.cell?_setCell_other _ _ _ _ (fun e => by have h8 := congrArg Addr.block e; have h9 := HC5.out.size; simp at h8; omega)).trans ?_)); first | with_reducible exact qc0 | with_reducible exact qc1 | with_reducible exact qc2 | with_reducible exact qc3 | with_reducible exact qc4 | with_reducible exact qc5 | with_reducible exact qk0 _ | with_reducible exact qk1 _ | with_reducible exact qk2 _ | with_reducible exact qk3 _ | with_reducible exact qk4 _ | with_reducible exact qk5 _)))
      (first | (go_at_call 9; (try (with_reducible refine with_drew (fun hal hkz => ?_); have HC5 := Lib.hid hal; have hkg := Nat.le_refl x1.heap.size; clear hal)); (try (with_reducible refine with_alloc (fun hal hkz => ?_); have hkg := HC5.out.size; have HC5 := Lib.hid (Base.then_below HC5.out hal); (try have HA := Lib.hid (Flds.holds_more (Flds.holds_below HA.out hal) hal.size)); clear hal)); (try (clear qc0 qk0 qc1 qk1 qc2 qk2 qc3 qk3 qc4 qk4 qc5 qk5)); (try (clear qe0 qe1 qe2 qe3 qe4 qe5)); refine (Msg.copy_rsp c0 u0 l0 b0 w.heap.size _ ((FB.out _ HC5.out).2.2.1) (by have h9 := HC5.out.size; omega) HL0.out).mono ?_; rintro e xq ⟨vA, rfl, oq, bq⟩; (try have HA := Lib.hid (Flds.holds_more (Flds.holds_below HA.out bq) bq.size)); (try have hkz := hkz.below bq); have HC5 := Lib.hid (Base.then_below HC5.out bq); have HA := Lib.hid (Flds.own_holds oq); clear bq oq; have qc0 := (FB.out _ HC5.out).1.1; have qc1 := (FB.out _ HC5.out).1.2.1; have qc2 := (FB.out _ HC5.out).1.2.2; have qc3 := (FB.out _ HC5.out).2.1.1; have qc4 := (FB.out _ HC5.out).2.1.2.1; have qc5 := (FB.out _ HC5.out).2.1.2.2; have qk0 : ∀ o : Obj, (xq.alloc o).cell? ⟨w.heap.size, 0, none⟩ = some (.int .i64 c0) := fun o => (World.cell?_alloc_lt _ _ _ (Rec.lt_of_cell qc0)).trans qc0; have qk1 : ∀ o : Obj, (xq.alloc o).cell? ⟨w.heap.size, 1, none⟩ = some (u0) := fun o => (World.cell?_alloc_lt _ _ _ (Rec.lt_of_cell qc1)).trans qc1; have qk2 : ∀ o : Obj, (xq.alloc o).cell? ⟨w.heap.size, 2, none⟩ = some (.string ⟨b0.toArray⟩) := fun o => (World.cell?_alloc_lt _ _ _ (Rec.lt_of_cell qc2)).trans qc2; have qk3 : ∀ o : Obj, (xq.alloc o).cell? ⟨w.heap.size + 1, 0, none⟩ = some (.int .i64 x2) := fun o => (World.cell?_alloc_lt _ _ _ (Rec.lt_of_cell qc3)).trans qc3; have qk4 : ∀ o : Obj, (xq.alloc o).cell? ⟨w.heap.size + 1, 1, none⟩ = some (.int .i64 y2) := fun o => (World.cell?_alloc_lt _ _ _ (Rec.lt_of_cell qc4)).trans qc4; have qk5 : ∀ o : Obj, (xq.alloc o).cell? ⟨w.heap.size + 1, 2, none⟩ = some (.int .i64 k2) := fun o => (World.cell?_alloc_lt _ _ _ (Rec.lt_of_cell qc5)).trans qc5) | (go_at_call 10; (try (with_reducible refine with_drew (fun hal hkz => ?_); have HC5 := Lib.hid hal; have hkg := Nat.le_refl x1.heap.size; clear hal)); (try (with_reducible refine with_alloc (fun hal hkz => ?_); have hkg := HC5.out.size; have HC5 := Lib.hid (Base.then_below HC5.out hal); (try have HA := Lib.hid (Flds.holds_more (Flds.holds_below HA.out hal) hal.size)); clear hal)); (try (clear qc0 qk0 qc1 qk1 qc2 qk2 qc3 qk3 qc4 qk4 qc5 qk5)); (try (clear qe0 qe1 qe2 qe3 qe4 qe5)); refine (Hps.copy_two x2 y2 k2 _).mono ?_; rintro e xq ⟨rfl, bq⟩; (try have HA := Lib.hid (Flds.holds_more (Flds.holds_below HA.out bq) bq.size)); (try have hkz := hkz.below bq); have HC5 := Lib.hid (Base.then_below HC5.out bq); clear bq; have qc0 := (FB.out _ HC5.out).1.1; have qc1 := (FB.out _ HC5.out).1.2.1; have qc2 := (FB.out _ HC5.out).1.2.2; have qc3 := (FB.out _ HC5.out).2.1.1; have qc4 := (FB.out _ HC5.out).2.1.2.1; have qc5 := (FB.out _ HC5.out).2.1.2.2; have qk0 : ∀ o : Obj, (xq.alloc o).cell? ⟨w.heap.size, 0, none⟩ = some (.int .i64 c0) := fun o => (World.cell?_alloc_lt _ _ _ (Rec.lt_of_cell qc0)).trans qc0; have qk1 : ∀ o : Obj, (xq.alloc o).cell? ⟨w.heap.size, 1, none⟩ = some (u0) := fun o => (World.cell?_alloc_lt _ _ _ (Rec.lt_of_cell qc1)).trans qc1; have qk2 : ∀ o : Obj, (xq.alloc o).cell? ⟨w.heap.size, 2, none⟩ = some (.string ⟨b0.toArray⟩) := fun o => (World.cell?_alloc_lt _ _ _ (Rec.lt_of_cell qc2)).trans qc2; have qk3 : ∀ o : Obj, (xq.alloc o).cell? ⟨w.heap.size + 1, 0, none⟩ = some (.int .i64 x2) := fun o => (World.cell?_alloc_lt _ _ _ (Rec.lt_of_cell qc3)).trans qc3; have qk4 : ∀ o : Obj, (xq.alloc o).cell? ⟨w.heap.size + 1, 1, none⟩ = some (.int .i64 y2) := fun o => (World.cell?_alloc_lt _ _ _ (Rec.lt_of_cell qc4)).trans qc4; have qk5 : ∀ o : Obj, (xq.alloc o).cell? ⟨w.heap.size + 1, 2, none⟩ = some (.int .i64 k2) := fun o => (World.cell?_alloc_lt _ _ _ (Rec.lt_of_cell qc5)).trans qc5) | (go_at_call 8; (try (with_reducible refine with_drew (fun hal hkz => ?_); have HC5 := Lib.hid hal; have hkg := Nat.le_refl x1.heap.size; clear hal)); (try (with_reducible refine with_alloc (fun hal hkz => ?_); have hkg := HC5.out.size; have HC5 := Lib.hid (Base.then_below HC5.out hal); (try have HA := Lib.hid (Flds.holds_more (Flds.holds_below HA.out hal) hal.size)); clear hal)); (try (clear qc0 qk0 qc1 qk1 qc2 qk2 qc3 qk3 qc4 qk4 qc5 qk5)); (try (clear qe0 qe1 qe2 qe3 qe4 qe5)); (try have hgl := Rec.lt_of_cell (hkz.cell 0 _ rfl)); have hb9 := HC5.out.size; refine (HPS.out _ _ _ HA.out (Nat.le_refl _)).mono ?_; rintro e xr ⟨vR, rfl, oR, bq⟩; obtain ⟨aR, cpR, rfl, _⟩ := Rec.shape_at oR; (try have hkz := hkz.below bq); have HC5 := Lib.hid (Base.then_below HC5.out bq); have HOR := Lib.hid oR; (try have q0 := hkz.cell 0 _ rfl); (try have q1 := hkz.cell 1 _ rfl); (try have q2 := hkz.cell 2 _ rfl); (try have f0 := hkz.frz 0); (try have f1 := hkz.frz 1); (try have f2 := hkz.frz 2); clear bq oR HA; have qc0 := (FB.out _ HC5.out).1.1; have qc1 := (FB.out _ HC5.out).1.2.1; have qc2 := (FB.out _ HC5.out).1.2.2; have qc3 := (FB.out _ HC5.out).2.1.1; have qc4 := (FB.out _ HC5.out).2.1.2.1; have qc5 := (FB.out _ HC5.out).2.1.2.2; have qk0 : ∀ o : Obj, (xr.alloc o).cell? ⟨w.heap.size, 0, none⟩ = some (.int .i64 c0) := fun o => (World.cell?_alloc_lt _ _ _ (Rec.lt_of_cell qc0)).trans qc0; have qk1 : ∀ o : Obj, (xr.alloc o).cell? ⟨w.heap.size, 1, none⟩ = some (u0) := fun o => (World.cell?_alloc_lt _ _ _ (Rec.lt_of_cell qc1)).trans qc1; have qk2 : ∀ o : Obj, (xr.alloc o).cell? ⟨w.heap.size, 2, none⟩ = some (.string ⟨b0.toArray⟩) := fun o => (World.cell?_alloc_lt _ _ _ (Rec.lt_of_cell qc2)).trans qc2; have qk3 : ∀ o : Obj, (xr.alloc o).cell? ⟨w.heap.size + 1, 0, none⟩ = some (.int .i64 x2) := fun o => (World.cell?_alloc_lt _ _ _ (Rec.lt_of_cell qc3)).trans qc3; have qk4 : ∀ o : Obj, (xr.alloc o).cell? ⟨w.heap.size + 1, 1, none⟩ = some (.int .i64 y2) := fun o => (World.cell?_alloc_lt _ _ _ (Rec.lt_of_cell qc4)).trans qc4; have qk5 : ∀ o : Obj, (xr.alloc o).cell? ⟨w.heap.size + 1, 2, none⟩ = some (.int .i64 k2) := fun o => (World.cell?_alloc_lt _ _ _ (Rec.lt_of_cell qc5)).trans qc5))
    all_goals (go_wp2_with fail; go_meet)
    all_goals first | (have hg' := hkg; have hbx := (((hkz.same (k := 0) (by simp) (.int .i64 c0)).same (k := 1) (by simp) ((.slice aR g0.length cpR))).same (k := 2) (by simp) (.string ⟨b0.toArray⟩)); have hnk := fun k (e : Value.ownBlock (.slice aR g0.length cpR) = some k) => Nat.ne_of_gt (Nat.lt_of_lt_of_le hgl (World.ownsRow.lt HOR.out k e).1); have hne : Value.ownBlock (.slice aR g0.length cpR) ≠ some _ := fun e => hnk _ e rfl; exact ⟨_, _, _, rfl, rfl, hkg, Lib.hid hnk, Lib.hid ⟨hbx.cell 0 _ rfl, hbx.cell 1 _ rfl, hbx.cell 2 _ rfl⟩, Lib.hid (Rec.own_mono (ownsRow_setCell_other (a := ⟨_, 2, none⟩) (ownsRow_setCell_other (a := ⟨_, 1, none⟩) (ownsRow_setCell_other (a := ⟨_, 0, none⟩) HOR.out hne (.int .i64 c0)) hne ((.slice aR g0.length cpR))) hne (.string ⟨b0.toArray⟩)) hb9), Lib.hid (((HC5.out.setCell hkg _).setCell hkg _).setCell hkg _)⟩) | (have hbx := Kept.Box.new (w := xr) (T := 30) (a := #[.int .i64 c0, (.slice aR g0.length cpR), .string ⟨b0.toArray⟩]); exact ⟨_, _, _, rfl, rfl, HC5.out.size, Lib.hid (fun k e => Nat.ne_of_lt (World.ownsRow.lt HOR.out k e).2), Lib.hid ⟨hbx.cell 0 _ rfl, hbx.cell 1 _ rfl, hbx.cell 2 _ rfl⟩, Lib.hid (Rec.own_mono (Flds.row_below HOR.out ((Below.refl xr.heap.size xr).alloc (Nat.le_refl _) _)) hb9), Lib.hid (HC5.out.alloc HC5.out.size _)⟩)
  case rest =>
    rename World => wz2
    obtain ⟨gW, aW, cpW, rfl, rfl, hgW, HDW, HZW, HOW, HC5⟩ := hcut
    obtain ⟨f0, f1, f2, fb⟩ := FB.out _ HC5.out
    have HX0 := Lib.hid f0
    have HX2 := Lib.hid f1
    have HY0 := Lib.hid f2
    have HB := Lib.hid fb
    have hsr2 := HB.out.size
    have hsc2 := HC5.out.size
    have hlzW := Rec.lt_of_cell (HZW.out.1)
    clear FB HC5 f0 f1 f2 fb
    have HW := Lib.hid (Flds.own_holds HOW.out)
    clear HOW
    have HX0o := HX0.out
    obtain ⟨hx0_0, hx0_1, hx0_2⟩ := HX0o
    go_wp2_with (fail)
    go_at_call 9
    refine (Msg.copy_rsp c0 u0 l0 b0 w.heap.size _ HY0.out (by have h9 := HB.out.size; omega) HL0.out).mono ?_
    rintro e x3 ⟨vX, rfl, oX, b3⟩
    have hs3 := b3.size
    obtain ⟨aX, cpX, rfl, _⟩ := Rec.shape_at oX
    clear hx0_0 hx0_1 hx0_2
    have HX0 := Lib.hid (And.intro ((b3.cell (p := ⟨w.heap.size, 0, none⟩) (Rec.lt_of_cell (HX0.out.1))).trans (HX0.out.1)) (And.intro ((b3.cell (p := ⟨w.heap.size, 1, none⟩) (Rec.lt_of_cell (HX0.out.2.1))).trans (HX0.out.2.1)) ((b3.cell (p := ⟨w.heap.size, 2, none⟩) (Rec.lt_of_cell (HX0.out.2.2))).trans (HX0.out.2.2))))
    have HX2 := Lib.hid (And.intro ((b3.cell (p := ⟨w.heap.size + 1, 0, none⟩) (Rec.lt_of_cell (HX2.out.1))).trans (HX2.out.1)) (And.intro ((b3.cell (p := ⟨w.heap.size + 1, 1, none⟩) (Rec.lt_of_cell (HX2.out.2.1))).trans (HX2.out.2.1)) ((b3.cell (p := ⟨w.heap.size + 1, 2, none⟩) (Rec.lt_of_cell (HX2.out.2.2))).trans (HX2.out.2.2))))
    have HY0 := Lib.hid (Flds.holds_below HY0.out (b3.mono (by omega)))
    have HZW := Lib.hid (And.intro ((b3.cell (p := ⟨gW, 0, none⟩) (Rec.lt_of_cell (HZW.out.1))).trans (HZW.out.1)) (And.intro ((b3.cell (p := ⟨gW, 1, none⟩) (Rec.lt_of_cell (HZW.out.2.1))).trans (HZW.out.2.1)) ((b3.cell (p := ⟨gW, 2, none⟩) (Rec.lt_of_cell (HZW.out.2.2))).trans (HZW.out.2.2))))
    have HW := Lib.hid (Flds.holds_below HW.out (b3.mono (by omega)))
    have HB := Lib.hid (Base.then_below HB.out b3)
    clear b3
    have HX := Lib.hid (oX)
    clear oX
    have HRX : Hid (∀ k, Value.ownBlock (.slice aX l0.length cpX) = some k → k < x3.heap.size) := Lib.hid (fun k e => (World.ownsRow.lt HX.out k e).2)
    have hsa4 : (x3.alloc (.cells #[.int .i64 c0, (.slice aX l0.length cpX), .string ⟨b0.toArray⟩] 30)).heap.size = x3.heap.size + 1 := by simp
    have HX0 := Lib.hid (And.intro ((((Below.refl x3.heap.size x3).alloc (Nat.le_refl _) (.cells #[.int .i64 c0, (.slice aX l0.length cpX), .string ⟨b0.toArray⟩] 30)).cell (p := ⟨w.heap.size, 0, none⟩) (Rec.lt_of_cell (HX0.out.1))).trans (HX0.out.1)) (And.intro ((((Below.refl x3.heap.size x3).alloc (Nat.le_refl _) (.cells #[.int .i64 c0, (.slice aX l0.length cpX), .string ⟨b0.toArray⟩] 30)).cell (p := ⟨w.heap.size, 1, none⟩) (Rec.lt_of_cell (HX0.out.2.1))).trans (HX0.out.2.1)) ((((Below.refl x3.heap.size x3).alloc (Nat.le_refl _) (.cells #[.int .i64 c0, (.slice aX l0.length cpX), .string ⟨b0.toArray⟩] 30)).cell (p := ⟨w.heap.size, 2, none⟩) (Rec.lt_of_cell (HX0.out.2.2))).trans (HX0.out.2.2))))
    have HX2 := Lib.hid (And.intro ((((Below.refl x3.heap.size x3).alloc (Nat.le_refl _) (.cells #[.int .i64 c0, (.slice aX l0.length cpX), .string ⟨b0.toArray⟩] 30)).cell (p := ⟨w.heap.size + 1, 0, none⟩) (Rec.lt_of_cell (HX2.out.1))).trans (HX2.out.1)) (And.intro ((((Below.refl x3.heap.size x3).alloc (Nat.le_refl _) (.cells #[.int .i64 c0, (.slice aX l0.length cpX), .string ⟨b0.toArray⟩] 30)).cell (p := ⟨w.heap.size + 1, 1, none⟩) (Rec.lt_of_cell (HX2.out.2.1))).trans (HX2.out.2.1)) ((((Below.refl x3.heap.size x3).alloc (Nat.le_refl _) (.cells #[.int .i64 c0, (.slice aX l0.length cpX), .string ⟨b0.toArray⟩] 30)).cell (p := ⟨w.heap.size + 1, 2, none⟩) (Rec.lt_of_cell (HX2.out.2.2))).trans (HX2.out.2.2))))
    have HY0 := Lib.hid (Flds.holds_below HY0.out (((Below.refl x3.heap.size x3).alloc (Nat.le_refl _) (.cells #[.int .i64 c0, (.slice aX l0.length cpX), .string ⟨b0.toArray⟩] 30)).mono (by omega)))
    have HZW := Lib.hid (And.intro ((((Below.refl x3.heap.size x3).alloc (Nat.le_refl _) (.cells #[.int .i64 c0, (.slice aX l0.length cpX), .string ⟨b0.toArray⟩] 30)).cell (p := ⟨gW, 0, none⟩) (Rec.lt_of_cell (HZW.out.1))).trans (HZW.out.1)) (And.intro ((((Below.refl x3.heap.size x3).alloc (Nat.le_refl _) (.cells #[.int .i64 c0, (.slice aX l0.length cpX), .string ⟨b0.toArray⟩] 30)).cell (p := ⟨gW, 1, none⟩) (Rec.lt_of_cell (HZW.out.2.1))).trans (HZW.out.2.1)) ((((Below.refl x3.heap.size x3).alloc (Nat.le_refl _) (.cells #[.int .i64 c0, (.slice aX l0.length cpX), .string ⟨b0.toArray⟩] 30)).cell (p := ⟨gW, 2, none⟩) (Rec.lt_of_cell (HZW.out.2.2))).trans (HZW.out.2.2))))
    have HW := Lib.hid (Flds.holds_below HW.out (((Below.refl x3.heap.size x3).alloc (Nat.le_refl _) (.cells #[.int .i64 c0, (.slice aX l0.length cpX), .string ⟨b0.toArray⟩] 30)).mono (by omega)))
    have HX := Lib.hid (Flds.row_below HX.out ((Below.refl x3.heap.size x3).alloc (Nat.le_refl _) (.cells #[.int .i64 c0, (.slice aX l0.length cpX), .string ⟨b0.toArray⟩] 30)))
    have HB := Lib.hid (HB.out.alloc HB.out.size (.cells #[.int .i64 c0, (.slice aX l0.length cpX), .string ⟨b0.toArray⟩] 30))
    have HZX : Hid ((x3.alloc (.cells #[.int .i64 c0, (.slice aX l0.length cpX), .string ⟨b0.toArray⟩] 30)).cell? ⟨x3.heap.size, 0, none⟩ = some (.int .i64 c0) ∧ (x3.alloc (.cells #[.int .i64 c0, (.slice aX l0.length cpX), .string ⟨b0.toArray⟩] 30)).cell? ⟨x3.heap.size, 1, none⟩ = some ((.slice aX l0.length cpX)) ∧ (x3.alloc (.cells #[.int .i64 c0, (.slice aX l0.length cpX), .string ⟨b0.toArray⟩] 30)).cell? ⟨x3.heap.size, 2, none⟩ = some (.string ⟨b0.toArray⟩)) := Lib.hid ⟨by rw [World.cell?_alloc_new]; rfl, by rw [World.cell?_alloc_new]; rfl, by rw [World.cell?_alloc_new]; rfl⟩
    go_upto_region 7 with fail
    have hsG5 : (x3).heap.size + 1 = (x3.alloc (.cells #[.int .i64 c0, (.slice aX l0.length cpX), .string ⟨b0.toArray⟩] 30)).heap.size := by simp
    generalize hgen5 : (x3.alloc (.cells #[.int .i64 c0, (.slice aX l0.length cpX), .string ⟨b0.toArray⟩] 30)) = y5 at hsG5 HB HX0 HX2 HY0 HZW HW HX HZX ⊢
    clear hgen5
    have hsB5 := HB.out.size
    have hl5_HX0 := Rec.lt_of_cell (HX0.out.1)
    have hl5_HX2 := Rec.lt_of_cell (HX2.out.1)
    have hl5_HZW := Rec.lt_of_cell (HZW.out.1)
    have hn_HX := fun k e => (World.ownsRow.lt HX.out k e).2
    have hl5_HZX := Rec.lt_of_cell (HZX.out.1)
    have FB : Hid (∀ u : World, Below y5.heap.size y5 u → (u.cell? ⟨w.heap.size, 0, none⟩ = some (.int .i64 c0) ∧ u.cell? ⟨w.heap.size, 1, none⟩ = some (u0) ∧ u.cell? ⟨w.heap.size, 2, none⟩ = some (.string ⟨b0.toArray⟩)) ∧ (u.cell? ⟨w.heap.size + 1, 0, none⟩ = some (.int .i64 x2) ∧ u.cell? ⟨w.heap.size + 1, 1, none⟩ = some (.int .i64 y2) ∧ u.cell? ⟨w.heap.size + 1, 2, none⟩ = some (.int .i64 k2)) ∧ (Flds.Holds u w.heap.size u0 l0) ∧ (u.cell? ⟨gW, 0, none⟩ = some (.int .i64 c0) ∧ u.cell? ⟨gW, 1, none⟩ = some ((.slice aW g0.length cpW)) ∧ u.cell? ⟨gW, 2, none⟩ = some (.string ⟨b0.toArray⟩)) ∧ (Flds.Holds u wz2.heap.size (.slice aW g0.length cpW) g0) ∧ (Flds.Own u wz2.heap.size (.slice aX l0.length cpX) l0) ∧ (u.cell? ⟨x3.heap.size, 0, none⟩ = some (.int .i64 c0) ∧ u.cell? ⟨x3.heap.size, 1, none⟩ = some ((.slice aX l0.length cpX)) ∧ u.cell? ⟨x3.heap.size, 2, none⟩ = some (.string ⟨b0.toArray⟩)) ∧ Below w.heap.size w u) := Lib.hid (fun u hb => ⟨⟨(hb.cell (p := ⟨w.heap.size, 0, none⟩) (Rec.lt_of_cell (HX0.out.1))).trans (HX0.out.1), (hb.cell (p := ⟨w.heap.size, 1, none⟩) (Rec.lt_of_cell (HX0.out.2.1))).trans (HX0.out.2.1), (hb.cell (p := ⟨w.heap.size, 2, none⟩) (Rec.lt_of_cell (HX0.out.2.2))).trans (HX0.out.2.2)⟩, ⟨(hb.cell (p := ⟨w.heap.size + 1, 0, none⟩) (Rec.lt_of_cell (HX2.out.1))).trans (HX2.out.1), (hb.cell (p := ⟨w.heap.size + 1, 1, none⟩) (Rec.lt_of_cell (HX2.out.2.1))).trans (HX2.out.2.1), (hb.cell (p := ⟨w.heap.size + 1, 2, none⟩) (Rec.lt_of_cell (HX2.out.2.2))).trans (HX2.out.2.2)⟩, Flds.holds_below HY0.out (hb.mono (by omega)), ⟨(hb.cell (p := ⟨gW, 0, none⟩) (Rec.lt_of_cell (HZW.out.1))).trans (HZW.out.1), (hb.cell (p := ⟨gW, 1, none⟩) (Rec.lt_of_cell (HZW.out.2.1))).trans (HZW.out.2.1), (hb.cell (p := ⟨gW, 2, none⟩) (Rec.lt_of_cell (HZW.out.2.2))).trans (HZW.out.2.2)⟩, Flds.holds_below HW.out (hb.mono (by omega)), Flds.row_below HX.out hb, ⟨(hb.cell (p := ⟨x3.heap.size, 0, none⟩) (Rec.lt_of_cell (HZX.out.1))).trans (HZX.out.1), (hb.cell (p := ⟨x3.heap.size, 1, none⟩) (Rec.lt_of_cell (HZX.out.2.1))).trans (HZX.out.2.1), (hb.cell (p := ⟨x3.heap.size, 2, none⟩) (Rec.lt_of_cell (HZX.out.2.2))).trans (HZX.out.2.2)⟩, Base.then_below HB.out hb⟩)
    go_cut [11, 12] (fun s11 s12 wx => ∃ g aR cpR, s11 = .pointer (some ⟨g, 0, none⟩) ∧ s12 = .int .i64 tt ∧ y5.heap.size ≤ g ∧ Hid (∀ k, Value.ownBlock (.slice aR g0.length cpR) = some k → k ≠ g) ∧ Hid (wx.cell? ⟨g, 0, none⟩ = some (.int .i64 c0) ∧ wx.cell? ⟨g, 1, none⟩ = some ((.slice aR g0.length cpR)) ∧ wx.cell? ⟨g, 2, none⟩ = some (.string ⟨b0.toArray⟩)) ∧ Hid (Flds.Own wx y5.heap.size (.slice aR g0.length cpR) g0) ∧ Hid (Below y5.heap.size y5 wx))
    case first =>
      have HC5 : Hid (Below y5.heap.size y5 y5.drew) := Lib.hid (Rec.below_drew (Below.refl _ _))
      have qc0 := (FB.out _ HC5.out).2.1.1
      have qc1 := (FB.out _ HC5.out).2.1.2.1
      have qc2 := (FB.out _ HC5.out).2.1.2.2
      have qc3 := (FB.out _ HC5.out).2.2.2.2.2.2.1.1
      have qc4 := (FB.out _ HC5.out).2.2.2.2.2.2.1.2.1
      have qc5 := (FB.out _ HC5.out).2.2.2.2.2.2.1.2.2
      have qk0 : ∀ o : Obj, (y5.drew.alloc o).cell? ⟨w.heap.size + 1, 0, none⟩ = some (.int .i64 x2) := fun o => (World.cell?_alloc_lt _ _ _ (Rec.lt_of_cell qc0)).trans qc0
      have qk1 : ∀ o : Obj, (y5.drew.alloc o).cell? ⟨w.heap.size + 1, 1, none⟩ = some (.int .i64 y2) := fun o => (World.cell?_alloc_lt _ _ _ (Rec.lt_of_cell qc1)).trans qc1
      have qk2 : ∀ o : Obj, (y5.drew.alloc o).cell? ⟨w.heap.size + 1, 2, none⟩ = some (.int .i64 k2) := fun o => (World.cell?_alloc_lt _ _ _ (Rec.lt_of_cell qc2)).trans qc2
      have qk3 : ∀ o : Obj, (y5.drew.alloc o).cell? ⟨x3.heap.size, 0, none⟩ = some (.int .i64 c0) := fun o => (World.cell?_alloc_lt _ _ _ (Rec.lt_of_cell qc3)).trans qc3
      have qk4 : ∀ o : Obj, (y5.drew.alloc o).cell? ⟨x3.heap.size, 1, none⟩ = some ((.slice aX l0.length cpX)) := fun o => (World.cell?_alloc_lt _ _ _ (Rec.lt_of_cell qc4)).trans qc4
      have qk5 : ∀ o : Obj, (y5.drew.alloc o).cell? ⟨x3.heap.size, 2, none⟩ = some (.string ⟨b0.toArray⟩) := fun o => (World.cell?_alloc_lt _ _ _ (Rec.lt_of_cell qc5)).trans qc5
      have qe0 : ∀ o : Obj, ((y5.alloc o).drew).cell? ⟨w.heap.size + 1, 0, none⟩ = some (.int .i64 x2) := fun o => (World.cell?_alloc_lt _ _ _ (Rec.lt_of_cell ((FB.out _ (Below.refl _ _)).2.1.1))).trans ((FB.out _ (Below.refl _ _)).2.1.1)
      have qe1 : ∀ o : Obj, ((y5.alloc o).drew).cell? ⟨w.heap.size + 1, 1, none⟩ = some (.int .i64 y2) := fun o => (World.cell?_alloc_lt _ _ _ (Rec.lt_of_cell ((FB.out _ (Below.refl _ _)).2.1.2.1))).trans ((FB.out _ (Below.refl _ _)).2.1.2.1)
      have qe2 : ∀ o : Obj, ((y5.alloc o).drew).cell? ⟨w.heap.size + 1, 2, none⟩ = some (.int .i64 k2) := fun o => (World.cell?_alloc_lt _ _ _ (Rec.lt_of_cell ((FB.out _ (Below.refl _ _)).2.1.2.2))).trans ((FB.out _ (Below.refl _ _)).2.1.2.2)
      have qe3 : ∀ o : Obj, ((y5.alloc o).drew).cell? ⟨x3.heap.size, 0, none⟩ = some (.int .i64 c0) := fun o => (World.cell?_alloc_lt _ _ _ (Rec.lt_of_cell ((FB.out _ (Below.refl _ _)).2.2.2.2.2.2.1.1))).trans ((FB.out _ (Below.refl _ _)).2.2.2.2.2.2.1.1)
      have qe4 : ∀ o : Obj, ((y5.alloc o).drew).cell? ⟨x3.heap.size, 1, none⟩ = some ((.slice aX l0.length cpX)) := fun o => (World.cell?_alloc_lt _ _ _ (Rec.lt_of_cell ((FB.out _ (Below.refl _ _)).2.2.2.2.2.2.1.2.1))).trans ((FB.out _ (Below.refl _ _)).2.2.2.2.2.2.1.2.1)
      have qe5 : ∀ o : Obj, ((y5.alloc o).drew).cell? ⟨x3.heap.size, 2, none⟩ = some (.string ⟨b0.toArray⟩) := fun o => (World.cell?_alloc_lt _ _ _ (Rec.lt_of_cell ((FB.out _ (Below.refl _ _)).2.2.2.2.2.2.1.2.2))).trans ((FB.out _ (Below.refl _ _)).2.2.2.2.2.2.1.2.2)
      go_wp2
      go_region_held3 (fun u => u.cell? ⟨w.heap.size + 1, 0, none⟩ = some (.int .i64 x2) ∧ u.cell? ⟨w.heap.size + 1, 1, none⟩ = some (.int .i64 y2) ∧ u.cell? ⟨w.heap.size + 1, 2, none⟩ = some (.int .i64 k2) ∧ u.cell? ⟨x3.heap.size, 0, none⟩ = some (.int .i64 c0) ∧ u.cell? ⟨x3.heap.size, 1, none⟩ = some ((.slice aX l0.length cpX)) ∧ u.cell? ⟨x3.heap.size, 2, none⟩ = some (.string ⟨b0.toArray⟩))
        (first | with_reducible exact ⟨qc0, qc1, qc2, qc3, qc4, qc5⟩ | with_reducible exact ⟨qk0 _, qk1 _, qk2 _, qk3 _, qk4 _, qk5 _⟩ | with_reducible exact ⟨qe0 _, qe1 _, qe2 _, qe3 _, qe4 _, qe5 _⟩ | (refine ⟨?_, ?_, ?_, ?_, ?_, ?_⟩ <;> (with_reducible refine (World.cell?_setCell_other _ _ _ _ (fun e => by have h8 := congrArg Addr.block e; have h9 := HC5.out.size; simp at h8; omega)).trans ((World.cell?_setCell_other _ _ _ _ (fun e => by have h8 := congrArg Addr.block e; have h9 := HC5.out.size; simp at h8; omega)).trans ((World.cell?_setCell_other _ _ _ _ (fun e => by have h8 := congrArg Addr.block e; have h9 := HC5.out.size; simp at h8; omega)).trans ?_)); first | with_reducible exact qc0 | with_reducible exact qc1 | with_reducible exact qc2 | with_reducible exact qc3 | with_reducible exact qc4 | with_reducible exact qc5 | with_reducible exact qk0 _ | with_reducible exact qk1 _ | with_reducible exact qk2 _ | with_reducible exact qk3 _ | with_reducible exact qk4 _ | with_reducible exact qk5 _)))
        (first | (go_at_call 10; (try (with_reducible refine with_drew (fun hal hkz => ?_); have HC5 := Lib.hid hal; have hkg := Nat.le_refl y5.heap.size; clear hal)); (try (with_reducible refine with_alloc (fun hal hkz => ?_); have hkg := HC5.out.size; have HC5 := Lib.hid (Base.then_below HC5.out hal); clear hal)); (try (clear qc0 qk0 qc1 qk1 qc2 qk2 qc3 qk3 qc4 qk4 qc5 qk5)); (try (clear qe0 qe1 qe2 qe3 qe4 qe5)); refine (Hps.copy_two x2 y2 k2 _).mono ?_; rintro e xq ⟨rfl, bq⟩; (try have hkz := hkz.below bq); have HC5 := Lib.hid (Base.then_below HC5.out bq); clear bq; have qc0 := (FB.out _ HC5.out).2.1.1; have qc1 := (FB.out _ HC5.out).2.1.2.1; have qc2 := (FB.out _ HC5.out).2.1.2.2; have qc3 := (FB.out _ HC5.out).2.2.2.2.2.2.1.1; have qc4 := (FB.out _ HC5.out).2.2.2.2.2.2.1.2.1; have qc5 := (FB.out _ HC5.out).2.2.2.2.2.2.1.2.2; have qk0 : ∀ o : Obj, (xq.alloc o).cell? ⟨w.heap.size + 1, 0, none⟩ = some (.int .i64 x2) := fun o => (World.cell?_alloc_lt _ _ _ (Rec.lt_of_cell qc0)).trans qc0; have qk1 : ∀ o : Obj, (xq.alloc o).cell? ⟨w.heap.size + 1, 1, none⟩ = some (.int .i64 y2) := fun o => (World.cell?_alloc_lt _ _ _ (Rec.lt_of_cell qc1)).trans qc1; have qk2 : ∀ o : Obj, (xq.alloc o).cell? ⟨w.heap.size + 1, 2, none⟩ = some (.int .i64 k2) := fun o => (World.cell?_alloc_lt _ _ _ (Rec.lt_of_cell qc2)).trans qc2; have qk3 : ∀ o : Obj, (xq.alloc o).cell? ⟨x3.heap.size, 0, none⟩ = some (.int .i64 c0) := fun o => (World.cell?_alloc_lt _ _ _ (Rec.lt_of_cell qc3)).trans qc3; have qk4 : ∀ o : Obj, (xq.alloc o).cell? ⟨x3.heap.size, 1, none⟩ = some ((.slice aX l0.length cpX)) := fun o => (World.cell?_alloc_lt _ _ _ (Rec.lt_of_cell qc4)).trans qc4; have qk5 : ∀ o : Obj, (xq.alloc o).cell? ⟨x3.heap.size, 2, none⟩ = some (.string ⟨b0.toArray⟩) := fun o => (World.cell?_alloc_lt _ _ _ (Rec.lt_of_cell qc5)).trans qc5) | (go_at_call 11; (try (with_reducible refine with_drew (fun hal hkz => ?_); have HC5 := Lib.hid hal; have hkg := Nat.le_refl y5.heap.size; clear hal)); (try (with_reducible refine with_alloc (fun hal hkz => ?_); have hkg := HC5.out.size; have HC5 := Lib.hid (Base.then_below HC5.out hal); clear hal)); (try (clear qc0 qk0 qc1 qk1 qc2 qk2 qc3 qk3 qc4 qk4 qc5 qk5)); (try (clear qe0 qe1 qe2 qe3 qe4 qe5)); (try have hgl := Rec.lt_of_cell (hkz.cell 0 _ rfl)); have hb9 := HC5.out.size; refine (HPI.out _ _ _ (Flds.own_holds ((FB.out _ HC5.out).2.2.2.2.2.1)) (Nat.le_refl _) ((FB.out _ HC5.out).2.2.2.2.2.2.2)).mono ?_; rintro e xr ⟨vR, rfl, oR, bq⟩; obtain ⟨aR, cpR, rfl, _⟩ := Rec.shape_at oR; (try have hkz := hkz.below bq); have HC5 := Lib.hid (Base.then_below HC5.out bq); have HOR := Lib.hid oR; (try have q0 := hkz.cell 0 _ rfl); (try have q1 := hkz.cell 1 _ rfl); (try have q2 := hkz.cell 2 _ rfl); (try have f0 := hkz.frz 0); (try have f1 := hkz.frz 1); (try have f2 := hkz.frz 2); clear bq oR; have qc0 := (FB.out _ HC5.out).2.1.1; have qc1 := (FB.out _ HC5.out).2.1.2.1; have qc2 := (FB.out _ HC5.out).2.1.2.2; have qc3 := (FB.out _ HC5.out).2.2.2.2.2.2.1.1; have qc4 := (FB.out _ HC5.out).2.2.2.2.2.2.1.2.1; have qc5 := (FB.out _ HC5.out).2.2.2.2.2.2.1.2.2; have qk0 : ∀ o : Obj, (xr.alloc o).cell? ⟨w.heap.size + 1, 0, none⟩ = some (.int .i64 x2) := fun o => (World.cell?_alloc_lt _ _ _ (Rec.lt_of_cell qc0)).trans qc0; have qk1 : ∀ o : Obj, (xr.alloc o).cell? ⟨w.heap.size + 1, 1, none⟩ = some (.int .i64 y2) := fun o => (World.cell?_alloc_lt _ _ _ (Rec.lt_of_cell qc1)).trans qc1; have qk2 : ∀ o : Obj, (xr.alloc o).cell? ⟨w.heap.size + 1, 2, none⟩ = some (.int .i64 k2) := fun o => (World.cell?_alloc_lt _ _ _ (Rec.lt_of_cell qc2)).trans qc2; have qk3 : ∀ o : Obj, (xr.alloc o).cell? ⟨x3.heap.size, 0, none⟩ = some (.int .i64 c0) := fun o => (World.cell?_alloc_lt _ _ _ (Rec.lt_of_cell qc3)).trans qc3; have qk4 : ∀ o : Obj, (xr.alloc o).cell? ⟨x3.heap.size, 1, none⟩ = some ((.slice aX l0.length cpX)) := fun o => (World.cell?_alloc_lt _ _ _ (Rec.lt_of_cell qc4)).trans qc4; have qk5 : ∀ o : Obj, (xr.alloc o).cell? ⟨x3.heap.size, 2, none⟩ = some (.string ⟨b0.toArray⟩) := fun o => (World.cell?_alloc_lt _ _ _ (Rec.lt_of_cell qc5)).trans qc5))
      all_goals (go_wp2_with fail; go_meet)
      all_goals first | (have hg' := hkg; have hbx := (((hkz.same (k := 0) (by simp) (.int .i64 c0)).same (k := 1) (by simp) ((.slice aR g0.length cpR))).same (k := 2) (by simp) (.string ⟨b0.toArray⟩)); have hnk := fun k (e : Value.ownBlock (.slice aR g0.length cpR) = some k) => Nat.ne_of_gt (Nat.lt_of_lt_of_le hgl (World.ownsRow.lt HOR.out k e).1); have hne : Value.ownBlock (.slice aR g0.length cpR) ≠ some _ := fun e => hnk _ e rfl; exact ⟨_, _, _, rfl, rfl, hkg, Lib.hid hnk, Lib.hid ⟨hbx.cell 0 _ rfl, hbx.cell 1 _ rfl, hbx.cell 2 _ rfl⟩, Lib.hid (Rec.own_mono (ownsRow_setCell_other (a := ⟨_, 2, none⟩) (ownsRow_setCell_other (a := ⟨_, 1, none⟩) (ownsRow_setCell_other (a := ⟨_, 0, none⟩) HOR.out hne (.int .i64 c0)) hne ((.slice aR g0.length cpR))) hne (.string ⟨b0.toArray⟩)) hb9), Lib.hid (((HC5.out.setCell hkg _).setCell hkg _).setCell hkg _)⟩) | (have hbx := Kept.Box.new (w := xr) (T := 30) (a := #[.int .i64 c0, (.slice aR g0.length cpR), .string ⟨b0.toArray⟩]); exact ⟨_, _, _, rfl, rfl, HC5.out.size, Lib.hid (fun k e => Nat.ne_of_lt (World.ownsRow.lt HOR.out k e).2), Lib.hid ⟨hbx.cell 0 _ rfl, hbx.cell 1 _ rfl, hbx.cell 2 _ rfl⟩, Lib.hid (Rec.own_mono (Flds.row_below HOR.out ((Below.refl xr.heap.size xr).alloc (Nat.le_refl _) _)) hb9), Lib.hid (HC5.out.alloc HC5.out.size _)⟩)
    case rest =>
      rename World => wz5
      obtain ⟨gG, aG, cpG, rfl, rfl, hgG, HDG, HZG, HOG, HC5⟩ := hcut
      obtain ⟨f0, f1, f2, f3, f4, f5, f6, fb⟩ := FB.out _ HC5.out
      have HX0 := Lib.hid f0
      have HX2 := Lib.hid f1
      have HY0 := Lib.hid f2
      have HZW := Lib.hid f3
      have HW := Lib.hid f4
      have HX := Lib.hid f5
      have HZX := Lib.hid f6
      have HB := Lib.hid fb
      have hsr5 := HB.out.size
      have hsc5 := HC5.out.size
      have hlzG := Rec.lt_of_cell (HZG.out.1)
      have HDG_X : Hid (∀ k, Value.ownBlock (.slice aX l0.length cpX) = some k → k ≠ gG) := Lib.hid (fun k e => Nat.ne_of_lt (Nat.lt_of_lt_of_le (hn_HX k e) hgG))
      have HG_ge : Hid (∀ k, Value.ownBlock (.slice aG g0.length cpG) = some k → y5.heap.size ≤ k) := Lib.hid (fun k e => (World.ownsRow.lt HOG.out k e).1)
      clear FB HC5 f0 f1 f2 f3 f4 f5 f6 fb
      have HG := HOG
      clear HOG
      have NG_X : Hid (∀ g, Value.ownBlock (.slice aG g0.length cpG) = some g → some g ≠ Value.ownBlock (.slice aX l0.length cpX)) := Lib.hid (fun g hg hx => Nat.lt_irrefl _ (Nat.lt_of_lt_of_le (hn_HX g hx.symm) (HG_ge.out g hg)))
      have HRG : Hid (∀ k, Value.ownBlock (.slice aG g0.length cpG) = some k → k < wz5.heap.size) := Lib.hid (fun k e => (World.ownsRow.lt HG.out k e).2)
      have htt : ((tt != tt) = false) := by simp
      have HZGo := HZG.out
      obtain ⟨hzg_0, hzg_1, hzg_2⟩ := HZGo
      have HZWo := HZW.out
      obtain ⟨hzw_0, hzw_1, hzw_2⟩ := HZWo
      go_wp2_with (fail)
      go_at_call 12
      refine (Msg.eq_rsp_wide c0 (.slice aG g0.length cpG) g0 b0 (.slice aW g0.length cpW) _ _ _ (Flds.own_holds HG.out) HW.out (by omega) (by omega) (by have := HK.out; omega)).mono ?_
      rintro e x6 ⟨rfl, b6⟩
      have hs6 := b6.size
      clear hzg_0 hzg_1 hzg_2
      clear hzw_0 hzw_1 hzw_2
      have HX0 := Lib.hid (And.intro ((b6.cell (p := ⟨w.heap.size, 0, none⟩) (Rec.lt_of_cell (HX0.out.1))).trans (HX0.out.1)) (And.intro ((b6.cell (p := ⟨w.heap.size, 1, none⟩) (Rec.lt_of_cell (HX0.out.2.1))).trans (HX0.out.2.1)) ((b6.cell (p := ⟨w.heap.size, 2, none⟩) (Rec.lt_of_cell (HX0.out.2.2))).trans (HX0.out.2.2))))
      have HX2 := Lib.hid (And.intro ((b6.cell (p := ⟨w.heap.size + 1, 0, none⟩) (Rec.lt_of_cell (HX2.out.1))).trans (HX2.out.1)) (And.intro ((b6.cell (p := ⟨w.heap.size + 1, 1, none⟩) (Rec.lt_of_cell (HX2.out.2.1))).trans (HX2.out.2.1)) ((b6.cell (p := ⟨w.heap.size + 1, 2, none⟩) (Rec.lt_of_cell (HX2.out.2.2))).trans (HX2.out.2.2))))
      have HY0 := Lib.hid (Flds.holds_below HY0.out (b6.mono (by omega)))
      have HZW := Lib.hid (And.intro ((b6.cell (p := ⟨gW, 0, none⟩) (Rec.lt_of_cell (HZW.out.1))).trans (HZW.out.1)) (And.intro ((b6.cell (p := ⟨gW, 1, none⟩) (Rec.lt_of_cell (HZW.out.2.1))).trans (HZW.out.2.1)) ((b6.cell (p := ⟨gW, 2, none⟩) (Rec.lt_of_cell (HZW.out.2.2))).trans (HZW.out.2.2))))
      have HW := Lib.hid (Flds.holds_below HW.out (b6.mono (by omega)))
      have HX := Lib.hid (Flds.row_below HX.out b6)
      have HZX := Lib.hid (And.intro ((b6.cell (p := ⟨x3.heap.size, 0, none⟩) (Rec.lt_of_cell (HZX.out.1))).trans (HZX.out.1)) (And.intro ((b6.cell (p := ⟨x3.heap.size, 1, none⟩) (Rec.lt_of_cell (HZX.out.2.1))).trans (HZX.out.2.1)) ((b6.cell (p := ⟨x3.heap.size, 2, none⟩) (Rec.lt_of_cell (HZX.out.2.2))).trans (HZX.out.2.2))))
      have HZG := Lib.hid (And.intro ((b6.cell (p := ⟨gG, 0, none⟩) (Rec.lt_of_cell (HZG.out.1))).trans (HZG.out.1)) (And.intro ((b6.cell (p := ⟨gG, 1, none⟩) (Rec.lt_of_cell (HZG.out.2.1))).trans (HZG.out.2.1)) ((b6.cell (p := ⟨gG, 2, none⟩) (Rec.lt_of_cell (HZG.out.2.2))).trans (HZG.out.2.2))))
      have HG := Lib.hid (Flds.row_below HG.out b6)
      have HB := Lib.hid (Base.then_below HB.out b6)
      clear b6
      have HX0 : Hid (x6.drew.cell? ⟨w.heap.size, 0, none⟩ = some (.int .i64 c0) ∧ x6.drew.cell? ⟨w.heap.size, 1, none⟩ = some (u0) ∧ x6.drew.cell? ⟨w.heap.size, 2, none⟩ = some (.string ⟨b0.toArray⟩)) := Lib.hid HX0.out
      have HX2 : Hid (x6.drew.cell? ⟨w.heap.size + 1, 0, none⟩ = some (.int .i64 x2) ∧ x6.drew.cell? ⟨w.heap.size + 1, 1, none⟩ = some (.int .i64 y2) ∧ x6.drew.cell? ⟨w.heap.size + 1, 2, none⟩ = some (.int .i64 k2)) := Lib.hid HX2.out
      have HY0 := Lib.hid (Flds.holds_below HY0.out (Rec.below_drew (Below.refl _ _)))
      have HZW : Hid (x6.drew.cell? ⟨gW, 0, none⟩ = some (.int .i64 c0) ∧ x6.drew.cell? ⟨gW, 1, none⟩ = some ((.slice aW g0.length cpW)) ∧ x6.drew.cell? ⟨gW, 2, none⟩ = some (.string ⟨b0.toArray⟩)) := Lib.hid HZW.out
      have HW := Lib.hid (Flds.holds_below HW.out (Rec.below_drew (Below.refl _ _)))
      have HX := Lib.hid (World.ownsRow.drew HX.out)
      have HZX : Hid (x6.drew.cell? ⟨x3.heap.size, 0, none⟩ = some (.int .i64 c0) ∧ x6.drew.cell? ⟨x3.heap.size, 1, none⟩ = some ((.slice aX l0.length cpX)) ∧ x6.drew.cell? ⟨x3.heap.size, 2, none⟩ = some (.string ⟨b0.toArray⟩)) := Lib.hid HZX.out
      have HZG : Hid (x6.drew.cell? ⟨gG, 0, none⟩ = some (.int .i64 c0) ∧ x6.drew.cell? ⟨gG, 1, none⟩ = some ((.slice aG g0.length cpG)) ∧ x6.drew.cell? ⟨gG, 2, none⟩ = some (.string ⟨b0.toArray⟩)) := Lib.hid HZG.out
      have HG := Lib.hid (World.ownsRow.drew HG.out)
      have HB := Lib.hid (Rec.below_drew HB.out)
      have hdz7 : x6.drew.heap.size = x6.heap.size := rfl
      have SA8 : Hid (∀ (u : World) (o : Obj), (u.cell? ⟨w.heap.size, 0, none⟩ = some (.int .i64 c0) ∧ u.cell? ⟨w.heap.size, 1, none⟩ = some (u0) ∧ u.cell? ⟨w.heap.size, 2, none⟩ = some (.string ⟨b0.toArray⟩) ∧ u.cell? ⟨x3.heap.size, 0, none⟩ = some (.int .i64 c0) ∧ u.cell? ⟨x3.heap.size, 1, none⟩ = some ((.slice aX l0.length cpX)) ∧ u.cell? ⟨x3.heap.size, 2, none⟩ = some (.string ⟨b0.toArray⟩)) → ((u.alloc o).cell? ⟨w.heap.size, 0, none⟩ = some (.int .i64 c0) ∧ (u.alloc o).cell? ⟨w.heap.size, 1, none⟩ = some (u0) ∧ (u.alloc o).cell? ⟨w.heap.size, 2, none⟩ = some (.string ⟨b0.toArray⟩) ∧ (u.alloc o).cell? ⟨x3.heap.size, 0, none⟩ = some (.int .i64 c0) ∧ (u.alloc o).cell? ⟨x3.heap.size, 1, none⟩ = some ((.slice aX l0.length cpX)) ∧ (u.alloc o).cell? ⟨x3.heap.size, 2, none⟩ = some (.string ⟨b0.toArray⟩))) := Lib.hid (fun u o h => ⟨(World.cell?_alloc_lt _ _ _ (Rec.lt_of_cell (h.1))).trans (h.1), (World.cell?_alloc_lt _ _ _ (Rec.lt_of_cell (h.2.1))).trans (h.2.1), (World.cell?_alloc_lt _ _ _ (Rec.lt_of_cell (h.2.2.1))).trans (h.2.2.1), (World.cell?_alloc_lt _ _ _ (Rec.lt_of_cell (h.2.2.2.1))).trans (h.2.2.2.1), (World.cell?_alloc_lt _ _ _ (Rec.lt_of_cell (h.2.2.2.2.1))).trans (h.2.2.2.2.1), (World.cell?_alloc_lt _ _ _ (Rec.lt_of_cell (h.2.2.2.2.2))).trans (h.2.2.2.2.2)⟩)
      have SB8 : Hid (∀ (u : World) (p k : Nat) (v : Value), w.heap.size ≠ p → x3.heap.size ≠ p → (u.cell? ⟨w.heap.size, 0, none⟩ = some (.int .i64 c0) ∧ u.cell? ⟨w.heap.size, 1, none⟩ = some (u0) ∧ u.cell? ⟨w.heap.size, 2, none⟩ = some (.string ⟨b0.toArray⟩) ∧ u.cell? ⟨x3.heap.size, 0, none⟩ = some (.int .i64 c0) ∧ u.cell? ⟨x3.heap.size, 1, none⟩ = some ((.slice aX l0.length cpX)) ∧ u.cell? ⟨x3.heap.size, 2, none⟩ = some (.string ⟨b0.toArray⟩)) → ((u.setCell ⟨p, k, none⟩ v).cell? ⟨w.heap.size, 0, none⟩ = some (.int .i64 c0) ∧ (u.setCell ⟨p, k, none⟩ v).cell? ⟨w.heap.size, 1, none⟩ = some (u0) ∧ (u.setCell ⟨p, k, none⟩ v).cell? ⟨w.heap.size, 2, none⟩ = some (.string ⟨b0.toArray⟩) ∧ (u.setCell ⟨p, k, none⟩ v).cell? ⟨x3.heap.size, 0, none⟩ = some (.int .i64 c0) ∧ (u.setCell ⟨p, k, none⟩ v).cell? ⟨x3.heap.size, 1, none⟩ = some ((.slice aX l0.length cpX)) ∧ (u.setCell ⟨p, k, none⟩ v).cell? ⟨x3.heap.size, 2, none⟩ = some (.string ⟨b0.toArray⟩))) := Lib.hid (fun u p k v n0 n1 h => ⟨(World.cell?_setCell_other _ _ _ _ (fun e => n0 (by cases e; rfl))).trans (h.1), (World.cell?_setCell_other _ _ _ _ (fun e => n0 (by cases e; rfl))).trans (h.2.1), (World.cell?_setCell_other _ _ _ _ (fun e => n0 (by cases e; rfl))).trans (h.2.2.1), (World.cell?_setCell_other _ _ _ _ (fun e => n1 (by cases e; rfl))).trans (h.2.2.2.1), (World.cell?_setCell_other _ _ _ _ (fun e => n1 (by cases e; rfl))).trans (h.2.2.2.2.1), (World.cell?_setCell_other _ _ _ _ (fun e => n1 (by cases e; rfl))).trans (h.2.2.2.2.2)⟩)
      go_wp2
      go_region_held_law (fun u => u.cell? ⟨w.heap.size, 0, none⟩ = some (.int .i64 c0) ∧ u.cell? ⟨w.heap.size, 1, none⟩ = some (u0) ∧ u.cell? ⟨w.heap.size, 2, none⟩ = some (.string ⟨b0.toArray⟩) ∧ u.cell? ⟨x3.heap.size, 0, none⟩ = some (.int .i64 c0) ∧ u.cell? ⟨x3.heap.size, 1, none⟩ = some ((.slice aX l0.length cpX)) ∧ u.cell? ⟨x3.heap.size, 2, none⟩ = some (.string ⟨b0.toArray⟩))
        (first | exact ⟨HX0.out.1, HX0.out.2.1, HX0.out.2.2, HZX.out.1, HZX.out.2.1, HZX.out.2.2⟩ | exact (SA8.out _ _ ⟨HX0.out.1, HX0.out.2.1, HX0.out.2.2, HZX.out.1, HZX.out.2.1, HZX.out.2.2⟩) | exact (SB8.out _ _ _ _ (Nat.ne_of_lt (Rec.lt_of_cell (HX0.out.1))) (Nat.ne_of_lt (Rec.lt_of_cell (HZX.out.1))) (SB8.out _ _ _ _ (Nat.ne_of_lt (Rec.lt_of_cell (HX0.out.1))) (Nat.ne_of_lt (Rec.lt_of_cell (HZX.out.1))) (SB8.out _ _ _ _ (Nat.ne_of_lt (Rec.lt_of_cell (HX0.out.1))) (Nat.ne_of_lt (Rec.lt_of_cell (HZX.out.1))) (SA8.out _ _ ⟨HX0.out.1, HX0.out.2.1, HX0.out.2.2, HZX.out.1, HZX.out.2.1, HZX.out.2.2⟩)))))
        (first | (go_at_call 9; go_loud (refine (Msg.copy_rsp c0 u0 l0 b0 w.heap.size _ HY0.out (by have h9 := HB.out.size; omega) HL0.out).mono ?_; rintro e xq ⟨vC, rfl, oC, bq⟩; have hqz := bq.size; have HX0 := Lib.hid (And.intro ((bq.cell (p := ⟨w.heap.size, 0, none⟩) (Rec.lt_of_cell (HX0.out.1))).trans (HX0.out.1)) (And.intro ((bq.cell (p := ⟨w.heap.size, 1, none⟩) (Rec.lt_of_cell (HX0.out.2.1))).trans (HX0.out.2.1)) ((bq.cell (p := ⟨w.heap.size, 2, none⟩) (Rec.lt_of_cell (HX0.out.2.2))).trans (HX0.out.2.2)))); have HX2 := Lib.hid (And.intro ((bq.cell (p := ⟨w.heap.size + 1, 0, none⟩) (Rec.lt_of_cell (HX2.out.1))).trans (HX2.out.1)) (And.intro ((bq.cell (p := ⟨w.heap.size + 1, 1, none⟩) (Rec.lt_of_cell (HX2.out.2.1))).trans (HX2.out.2.1)) ((bq.cell (p := ⟨w.heap.size + 1, 2, none⟩) (Rec.lt_of_cell (HX2.out.2.2))).trans (HX2.out.2.2)))); have HY0 := Lib.hid (Flds.holds_below HY0.out (bq.mono (by have h9 := HB.out.size; omega))); have HZW := Lib.hid (And.intro ((bq.cell (p := ⟨gW, 0, none⟩) (Rec.lt_of_cell (HZW.out.1))).trans (HZW.out.1)) (And.intro ((bq.cell (p := ⟨gW, 1, none⟩) (Rec.lt_of_cell (HZW.out.2.1))).trans (HZW.out.2.1)) ((bq.cell (p := ⟨gW, 2, none⟩) (Rec.lt_of_cell (HZW.out.2.2))).trans (HZW.out.2.2)))); have HW := Lib.hid (Flds.holds_below HW.out (bq.mono (by have h9 := HB.out.size; omega))); have HX := Lib.hid (Flds.row_below HX.out bq); have HZX := Lib.hid (And.intro ((bq.cell (p := ⟨x3.heap.size, 0, none⟩) (Rec.lt_of_cell (HZX.out.1))).trans (HZX.out.1)) (And.intro ((bq.cell (p := ⟨x3.heap.size, 1, none⟩) (Rec.lt_of_cell (HZX.out.2.1))).trans (HZX.out.2.1)) ((bq.cell (p := ⟨x3.heap.size, 2, none⟩) (Rec.lt_of_cell (HZX.out.2.2))).trans (HZX.out.2.2)))); have HZG := Lib.hid (And.intro ((bq.cell (p := ⟨gG, 0, none⟩) (Rec.lt_of_cell (HZG.out.1))).trans (HZG.out.1)) (And.intro ((bq.cell (p := ⟨gG, 1, none⟩) (Rec.lt_of_cell (HZG.out.2.1))).trans (HZG.out.2.1)) ((bq.cell (p := ⟨gG, 2, none⟩) (Rec.lt_of_cell (HZG.out.2.2))).trans (HZG.out.2.2)))); have HG := Lib.hid (Flds.row_below HG.out bq); have HB := Lib.hid (Base.then_below HB.out bq); have HC := Lib.hid (Flds.own_holds oC); clear bq oC)) | (go_at_call 12; go_loud (refine (Msg.eq_rsp c0 (.slice aX l0.length cpX) l0 b0 vC _ _ _ (Flds.own_holds HX.out) HC.out (by omega) (by omega) HL0.out).mono ?_; rintro e xr3 ⟨rfl, bq⟩; have hqz := bq.size; have HX0 := Lib.hid (And.intro ((bq.cell (p := ⟨w.heap.size, 0, none⟩) (Rec.lt_of_cell (HX0.out.1))).trans (HX0.out.1)) (And.intro ((bq.cell (p := ⟨w.heap.size, 1, none⟩) (Rec.lt_of_cell (HX0.out.2.1))).trans (HX0.out.2.1)) ((bq.cell (p := ⟨w.heap.size, 2, none⟩) (Rec.lt_of_cell (HX0.out.2.2))).trans (HX0.out.2.2)))); have HX2 := Lib.hid (And.intro ((bq.cell (p := ⟨w.heap.size + 1, 0, none⟩) (Rec.lt_of_cell (HX2.out.1))).trans (HX2.out.1)) (And.intro ((bq.cell (p := ⟨w.heap.size + 1, 1, none⟩) (Rec.lt_of_cell (HX2.out.2.1))).trans (HX2.out.2.1)) ((bq.cell (p := ⟨w.heap.size + 1, 2, none⟩) (Rec.lt_of_cell (HX2.out.2.2))).trans (HX2.out.2.2)))); have HY0 := Lib.hid (Flds.holds_below HY0.out (bq.mono (by have h9 := HB.out.size; omega))); have HZW := Lib.hid (And.intro ((bq.cell (p := ⟨gW, 0, none⟩) (Rec.lt_of_cell (HZW.out.1))).trans (HZW.out.1)) (And.intro ((bq.cell (p := ⟨gW, 1, none⟩) (Rec.lt_of_cell (HZW.out.2.1))).trans (HZW.out.2.1)) ((bq.cell (p := ⟨gW, 2, none⟩) (Rec.lt_of_cell (HZW.out.2.2))).trans (HZW.out.2.2)))); have HW := Lib.hid (Flds.holds_below HW.out (bq.mono (by have h9 := HB.out.size; omega))); have HX := Lib.hid (Flds.row_below HX.out bq); have HZX := Lib.hid (And.intro ((bq.cell (p := ⟨x3.heap.size, 0, none⟩) (Rec.lt_of_cell (HZX.out.1))).trans (HZX.out.1)) (And.intro ((bq.cell (p := ⟨x3.heap.size, 1, none⟩) (Rec.lt_of_cell (HZX.out.2.1))).trans (HZX.out.2.1)) ((bq.cell (p := ⟨x3.heap.size, 2, none⟩) (Rec.lt_of_cell (HZX.out.2.2))).trans (HZX.out.2.2)))); have HZG := Lib.hid (And.intro ((bq.cell (p := ⟨gG, 0, none⟩) (Rec.lt_of_cell (HZG.out.1))).trans (HZG.out.1)) (And.intro ((bq.cell (p := ⟨gG, 1, none⟩) (Rec.lt_of_cell (HZG.out.2.1))).trans (HZG.out.2.1)) ((bq.cell (p := ⟨gG, 2, none⟩) (Rec.lt_of_cell (HZG.out.2.2))).trans (HZG.out.2.2)))); have HG := Lib.hid (Flds.row_below HG.out bq); have HB := Lib.hid (Base.then_below HB.out bq); clear bq HC)))
      clear SA8 SB8
      have HZXo := HZX.out
      obtain ⟨hzx_0, hzx_1, hzx_2⟩ := HZXo
      go_wp2_with (fail)
      go_at_call 13
      refine (Mark.mark_rsp c0 b0 _ (.slice aX l0.length cpX) l0 1 _ HX.out (by omega) (by omega) (by have := HL0.out; omega)).mono ?_
      rintro e x9 ⟨rfl, oM, gM⟩
      have hs9 := gM.size
      have HR : Hid (∀ k, Value.ownBlock (.slice aX l0.length cpX) = some k → wz2.heap.size ≤ k) := Lib.hid (fun k e => (World.ownsRow.lt HX.out k e).1)
      have HX0 := Lib.hid (And.intro (gM.cell (HX0.out.1) (fun e => by have h9 : wz2.heap.size ≤ w.heap.size := HR.out _ e.symm; omega)) (And.intro (gM.cell (HX0.out.2.1) (fun e => by have h9 : wz2.heap.size ≤ w.heap.size := HR.out _ e.symm; omega)) (gM.cell (HX0.out.2.2) (fun e => by have h9 : wz2.heap.size ≤ w.heap.size := HR.out _ e.symm; omega))))
      have HX2 := Lib.hid (And.intro (gM.cell (HX2.out.1) (fun e => by have h9 : wz2.heap.size ≤ w.heap.size + 1 := HR.out _ e.symm; omega)) (And.intro (gM.cell (HX2.out.2.1) (fun e => by have h9 : wz2.heap.size ≤ w.heap.size + 1 := HR.out _ e.symm; omega)) (gM.cell (HX2.out.2.2) (fun e => by have h9 : wz2.heap.size ≤ w.heap.size + 1 := HR.out _ e.symm; omega))))
      have HY0 := Lib.hid (Flds.holds_grown HY0.out gM (fun k e => by have := HR.out k e; omega))
      have HZW := Lib.hid (And.intro (gM.cell (HZW.out.1) (fun e => by have h9 : wz2.heap.size ≤ gW := HR.out _ e.symm; omega)) (And.intro (gM.cell (HZW.out.2.1) (fun e => by have h9 : wz2.heap.size ≤ gW := HR.out _ e.symm; omega)) (gM.cell (HZW.out.2.2) (fun e => by have h9 : wz2.heap.size ≤ gW := HR.out _ e.symm; omega))))
      have HW := Lib.hid (Flds.holds_grown HW.out gM (fun k e => by have := HR.out k e; omega))
      have HZG := Lib.hid (And.intro (gM.cell (HZG.out.1) (fun e => HDG_X.out _ e.symm rfl)) (And.intro (gM.cell (HZG.out.2.1) (fun e => HDG_X.out _ e.symm rfl)) (gM.cell (HZG.out.2.2) (fun e => HDG_X.out _ e.symm rfl))))
      have HG := Lib.hid (Flds.row_grown HG.out gM NG_X.out)
      have HB := Lib.hid (HB.out.grown gM HB.out.size (fun k e => by have := HR.out k e; omega))
      have HX := Lib.hid oM
      clear oM gM HR
      clear hzx_0 hzx_1 hzx_2
      have hk1 : ¬ ((1 + l0.length * 2 : Nat) : Int) < 0 := by omega
      have HZGo := HZG.out
      obtain ⟨hzg_0, hzg_1, hzg_2⟩ := HZGo
      have HZWo := HZW.out
      obtain ⟨hzw_0, hzw_1, hzw_2⟩ := HZWo
      go_wp2_with (fail)
      go_at_call 12
      refine (Msg.eq_rsp_wide c0 (.slice aG g0.length cpG) g0 b0 (.slice aW g0.length cpW) _ _ _ (Flds.own_holds HG.out) HW.out (by omega) (by omega) (by have := HK.out; omega)).mono ?_
      rintro e x10 ⟨rfl, b10⟩
      have hs10 := b10.size
      clear hzg_0 hzg_1 hzg_2
      clear hzw_0 hzw_1 hzw_2
      have HX0 := Lib.hid (And.intro ((b10.cell (p := ⟨w.heap.size, 0, none⟩) (Rec.lt_of_cell (HX0.out.1))).trans (HX0.out.1)) (And.intro ((b10.cell (p := ⟨w.heap.size, 1, none⟩) (Rec.lt_of_cell (HX0.out.2.1))).trans (HX0.out.2.1)) ((b10.cell (p := ⟨w.heap.size, 2, none⟩) (Rec.lt_of_cell (HX0.out.2.2))).trans (HX0.out.2.2))))
      have HX2 := Lib.hid (And.intro ((b10.cell (p := ⟨w.heap.size + 1, 0, none⟩) (Rec.lt_of_cell (HX2.out.1))).trans (HX2.out.1)) (And.intro ((b10.cell (p := ⟨w.heap.size + 1, 1, none⟩) (Rec.lt_of_cell (HX2.out.2.1))).trans (HX2.out.2.1)) ((b10.cell (p := ⟨w.heap.size + 1, 2, none⟩) (Rec.lt_of_cell (HX2.out.2.2))).trans (HX2.out.2.2))))
      have HY0 := Lib.hid (Flds.holds_below HY0.out (b10.mono (by omega)))
      have HZW := Lib.hid (And.intro ((b10.cell (p := ⟨gW, 0, none⟩) (Rec.lt_of_cell (HZW.out.1))).trans (HZW.out.1)) (And.intro ((b10.cell (p := ⟨gW, 1, none⟩) (Rec.lt_of_cell (HZW.out.2.1))).trans (HZW.out.2.1)) ((b10.cell (p := ⟨gW, 2, none⟩) (Rec.lt_of_cell (HZW.out.2.2))).trans (HZW.out.2.2))))
      have HW := Lib.hid (Flds.holds_below HW.out (b10.mono (by omega)))
      have HZG := Lib.hid (And.intro ((b10.cell (p := ⟨gG, 0, none⟩) (Rec.lt_of_cell (HZG.out.1))).trans (HZG.out.1)) (And.intro ((b10.cell (p := ⟨gG, 1, none⟩) (Rec.lt_of_cell (HZG.out.2.1))).trans (HZG.out.2.1)) ((b10.cell (p := ⟨gG, 2, none⟩) (Rec.lt_of_cell (HZG.out.2.2))).trans (HZG.out.2.2))))
      have HG := Lib.hid (Flds.row_below HG.out b10)
      have HB := Lib.hid (Base.then_below HB.out b10)
      clear b10
      have HZGo := HZG.out
      obtain ⟨hzg_0, hzg_1, hzg_2⟩ := HZGo
      go_wp2_with (fail)
      go_at_call 13
      refine (Mark.mark_rsp c0 b0 _ (.slice aG g0.length cpG) g0 1 _ HG.out (by omega) (by omega) (by have := HK.out; omega)).mono ?_
      rintro e x11 ⟨rfl, oM, gM⟩
      have hs11 := gM.size
      have HR : Hid (∀ k, Value.ownBlock (.slice aG g0.length cpG) = some k → y5.heap.size ≤ k) := Lib.hid (fun k e => (World.ownsRow.lt HG.out k e).1)
      have HX0 := Lib.hid (And.intro (gM.cell (HX0.out.1) (fun e => by have h9 : y5.heap.size ≤ w.heap.size := HR.out _ e.symm; omega)) (And.intro (gM.cell (HX0.out.2.1) (fun e => by have h9 : y5.heap.size ≤ w.heap.size := HR.out _ e.symm; omega)) (gM.cell (HX0.out.2.2) (fun e => by have h9 : y5.heap.size ≤ w.heap.size := HR.out _ e.symm; omega))))
      have HX2 := Lib.hid (And.intro (gM.cell (HX2.out.1) (fun e => by have h9 : y5.heap.size ≤ w.heap.size + 1 := HR.out _ e.symm; omega)) (And.intro (gM.cell (HX2.out.2.1) (fun e => by have h9 : y5.heap.size ≤ w.heap.size + 1 := HR.out _ e.symm; omega)) (gM.cell (HX2.out.2.2) (fun e => by have h9 : y5.heap.size ≤ w.heap.size + 1 := HR.out _ e.symm; omega))))
      have HY0 := Lib.hid (Flds.holds_grown HY0.out gM (fun k e => by have := HR.out k e; omega))
      have HZW := Lib.hid (And.intro (gM.cell (HZW.out.1) (fun e => by have h9 : y5.heap.size ≤ gW := HR.out _ e.symm; omega)) (And.intro (gM.cell (HZW.out.2.1) (fun e => by have h9 : y5.heap.size ≤ gW := HR.out _ e.symm; omega)) (gM.cell (HZW.out.2.2) (fun e => by have h9 : y5.heap.size ≤ gW := HR.out _ e.symm; omega))))
      have HW := Lib.hid (Flds.holds_grown HW.out gM (fun k e => by have := HR.out k e; omega))
      have HZG := Lib.hid (And.intro (gM.cell (HZG.out.1) (fun e => HDG.out _ e.symm rfl)) (And.intro (gM.cell (HZG.out.2.1) (fun e => HDG.out _ e.symm rfl)) (gM.cell (HZG.out.2.2) (fun e => HDG.out _ e.symm rfl))))
      have HB := Lib.hid (HB.out.grown gM HB.out.size (fun k e => by have := HR.out k e; omega))
      have HG := Lib.hid oM
      clear oM gM HR
      clear hzg_0 hzg_1 hzg_2
      have hk2 : ¬ ((1 + g0.length * 2 : Nat) : Int) < 0 := by omega
      have HZGo := HZG.out
      obtain ⟨hzg_0, hzg_1, hzg_2⟩ := HZGo
      go_wp2_with (fail)
      go_at_call 14
      refine (Mark.held_rsp c0 b0 _ (.slice aG g0.length cpG) 1 g0.length _ (Flds.own_holds HG.out) (by omega) (by omega) (by have := HK.out; omega)).mono ?_
      rintro e x12 ⟨rfl, b12⟩
      have hs12 := b12.size
      clear hzg_0 hzg_1 hzg_2
      have HX0 := Lib.hid (And.intro ((b12.cell (p := ⟨w.heap.size, 0, none⟩) (Rec.lt_of_cell (HX0.out.1))).trans (HX0.out.1)) (And.intro ((b12.cell (p := ⟨w.heap.size, 1, none⟩) (Rec.lt_of_cell (HX0.out.2.1))).trans (HX0.out.2.1)) ((b12.cell (p := ⟨w.heap.size, 2, none⟩) (Rec.lt_of_cell (HX0.out.2.2))).trans (HX0.out.2.2))))
      have HX2 := Lib.hid (And.intro ((b12.cell (p := ⟨w.heap.size + 1, 0, none⟩) (Rec.lt_of_cell (HX2.out.1))).trans (HX2.out.1)) (And.intro ((b12.cell (p := ⟨w.heap.size + 1, 1, none⟩) (Rec.lt_of_cell (HX2.out.2.1))).trans (HX2.out.2.1)) ((b12.cell (p := ⟨w.heap.size + 1, 2, none⟩) (Rec.lt_of_cell (HX2.out.2.2))).trans (HX2.out.2.2))))
      have HY0 := Lib.hid (Flds.holds_below HY0.out (b12.mono (by omega)))
      have HZW := Lib.hid (And.intro ((b12.cell (p := ⟨gW, 0, none⟩) (Rec.lt_of_cell (HZW.out.1))).trans (HZW.out.1)) (And.intro ((b12.cell (p := ⟨gW, 1, none⟩) (Rec.lt_of_cell (HZW.out.2.1))).trans (HZW.out.2.1)) ((b12.cell (p := ⟨gW, 2, none⟩) (Rec.lt_of_cell (HZW.out.2.2))).trans (HZW.out.2.2))))
      have HW := Lib.hid (Flds.holds_below HW.out (b12.mono (by omega)))
      have HZG := Lib.hid (And.intro ((b12.cell (p := ⟨gG, 0, none⟩) (Rec.lt_of_cell (HZG.out.1))).trans (HZG.out.1)) (And.intro ((b12.cell (p := ⟨gG, 1, none⟩) (Rec.lt_of_cell (HZG.out.2.1))).trans (HZG.out.2.1)) ((b12.cell (p := ⟨gG, 2, none⟩) (Rec.lt_of_cell (HZG.out.2.2))).trans (HZG.out.2.2))))
      have HG := Lib.hid (Flds.row_below HG.out b12)
      have HB := Lib.hid (Base.then_below HB.out b12)
      clear b12
      have hsB13 := HB.out.size
      have hl13_HX0 := Rec.lt_of_cell (HX0.out.1)
      have hl13_HX2 := Rec.lt_of_cell (HX2.out.1)
      have hl13_HZW := Rec.lt_of_cell (HZW.out.1)
      have hl13_HZG := Rec.lt_of_cell (HZG.out.1)
      have hn_HG := fun k e => (World.ownsRow.lt HG.out k e).2
      have FB : Hid (∀ u : World, Below x12.heap.size x12 u → (u.cell? ⟨w.heap.size, 0, none⟩ = some (.int .i64 c0) ∧ u.cell? ⟨w.heap.size, 1, none⟩ = some (u0) ∧ u.cell? ⟨w.heap.size, 2, none⟩ = some (.string ⟨b0.toArray⟩)) ∧ (u.cell? ⟨w.heap.size + 1, 0, none⟩ = some (.int .i64 x2) ∧ u.cell? ⟨w.heap.size + 1, 1, none⟩ = some (.int .i64 y2) ∧ u.cell? ⟨w.heap.size + 1, 2, none⟩ = some (.int .i64 k2)) ∧ (Flds.Holds u w.heap.size u0 l0) ∧ (u.cell? ⟨gW, 0, none⟩ = some (.int .i64 c0) ∧ u.cell? ⟨gW, 1, none⟩ = some ((.slice aW g0.length cpW)) ∧ u.cell? ⟨gW, 2, none⟩ = some (.string ⟨b0.toArray⟩)) ∧ (Flds.Holds u wz2.heap.size (.slice aW g0.length cpW) g0) ∧ (u.cell? ⟨gG, 0, none⟩ = some (.int .i64 c0) ∧ u.cell? ⟨gG, 1, none⟩ = some ((.slice aG g0.length cpG)) ∧ u.cell? ⟨gG, 2, none⟩ = some (.string ⟨b0.toArray⟩)) ∧ (Flds.Own u y5.heap.size (.slice aG g0.length cpG) (Flds.mkl 1 g0.length)) ∧ Below w.heap.size w u) := Lib.hid (fun u hb => ⟨⟨(hb.cell (p := ⟨w.heap.size, 0, none⟩) (Rec.lt_of_cell (HX0.out.1))).trans (HX0.out.1), (hb.cell (p := ⟨w.heap.size, 1, none⟩) (Rec.lt_of_cell (HX0.out.2.1))).trans (HX0.out.2.1), (hb.cell (p := ⟨w.heap.size, 2, none⟩) (Rec.lt_of_cell (HX0.out.2.2))).trans (HX0.out.2.2)⟩, ⟨(hb.cell (p := ⟨w.heap.size + 1, 0, none⟩) (Rec.lt_of_cell (HX2.out.1))).trans (HX2.out.1), (hb.cell (p := ⟨w.heap.size + 1, 1, none⟩) (Rec.lt_of_cell (HX2.out.2.1))).trans (HX2.out.2.1), (hb.cell (p := ⟨w.heap.size + 1, 2, none⟩) (Rec.lt_of_cell (HX2.out.2.2))).trans (HX2.out.2.2)⟩, Flds.holds_below HY0.out (hb.mono (by omega)), ⟨(hb.cell (p := ⟨gW, 0, none⟩) (Rec.lt_of_cell (HZW.out.1))).trans (HZW.out.1), (hb.cell (p := ⟨gW, 1, none⟩) (Rec.lt_of_cell (HZW.out.2.1))).trans (HZW.out.2.1), (hb.cell (p := ⟨gW, 2, none⟩) (Rec.lt_of_cell (HZW.out.2.2))).trans (HZW.out.2.2)⟩, Flds.holds_below HW.out (hb.mono (by omega)), ⟨(hb.cell (p := ⟨gG, 0, none⟩) (Rec.lt_of_cell (HZG.out.1))).trans (HZG.out.1), (hb.cell (p := ⟨gG, 1, none⟩) (Rec.lt_of_cell (HZG.out.2.1))).trans (HZG.out.2.1), (hb.cell (p := ⟨gG, 2, none⟩) (Rec.lt_of_cell (HZG.out.2.2))).trans (HZG.out.2.2)⟩, Flds.row_below HG.out hb, Base.then_below HB.out hb⟩)
      go_upto_region 24 with fail
      go_cut [16, 17] (fun s16 s17 wx => ∃ g aR cpR, s16 = .pointer (some ⟨g, 0, none⟩) ∧ s17 = .int .i64 tt ∧ x12.heap.size ≤ g ∧ Hid (∀ k, Value.ownBlock (.slice aR g0.length cpR) = some k → k ≠ g) ∧ Hid (wx.cell? ⟨g, 0, none⟩ = some (.int .i64 c0) ∧ wx.cell? ⟨g, 1, none⟩ = some ((.slice aR g0.length cpR)) ∧ wx.cell? ⟨g, 2, none⟩ = some (.string ⟨b0.toArray⟩)) ∧ Hid (Flds.Own wx x12.heap.size (.slice aR g0.length cpR) g0) ∧ Hid (Below x12.heap.size x12 wx))
      case first =>
        have HC5 : Hid (Below x12.heap.size x12 x12.drew) := Lib.hid (Rec.below_drew (Below.refl _ _))
        have qc0 := (FB.out _ HC5.out).1.1
        have qc1 := (FB.out _ HC5.out).1.2.1
        have qc2 := (FB.out _ HC5.out).1.2.2
        have qc3 := (FB.out _ HC5.out).2.1.1
        have qc4 := (FB.out _ HC5.out).2.1.2.1
        have qc5 := (FB.out _ HC5.out).2.1.2.2
        have qk0 : ∀ o : Obj, (x12.drew.alloc o).cell? ⟨w.heap.size, 0, none⟩ = some (.int .i64 c0) := fun o => (World.cell?_alloc_lt _ _ _ (Rec.lt_of_cell qc0)).trans qc0
        have qk1 : ∀ o : Obj, (x12.drew.alloc o).cell? ⟨w.heap.size, 1, none⟩ = some (u0) := fun o => (World.cell?_alloc_lt _ _ _ (Rec.lt_of_cell qc1)).trans qc1
        have qk2 : ∀ o : Obj, (x12.drew.alloc o).cell? ⟨w.heap.size, 2, none⟩ = some (.string ⟨b0.toArray⟩) := fun o => (World.cell?_alloc_lt _ _ _ (Rec.lt_of_cell qc2)).trans qc2
        have qk3 : ∀ o : Obj, (x12.drew.alloc o).cell? ⟨w.heap.size + 1, 0, none⟩ = some (.int .i64 x2) := fun o => (World.cell?_alloc_lt _ _ _ (Rec.lt_of_cell qc3)).trans qc3
        have qk4 : ∀ o : Obj, (x12.drew.alloc o).cell? ⟨w.heap.size + 1, 1, none⟩ = some (.int .i64 y2) := fun o => (World.cell?_alloc_lt _ _ _ (Rec.lt_of_cell qc4)).trans qc4
        have qk5 : ∀ o : Obj, (x12.drew.alloc o).cell? ⟨w.heap.size + 1, 2, none⟩ = some (.int .i64 k2) := fun o => (World.cell?_alloc_lt _ _ _ (Rec.lt_of_cell qc5)).trans qc5
        have qe0 : ∀ o : Obj, ((x12.alloc o).drew).cell? ⟨w.heap.size, 0, none⟩ = some (.int .i64 c0) := fun o => (World.cell?_alloc_lt _ _ _ (Rec.lt_of_cell ((FB.out _ (Below.refl _ _)).1.1))).trans ((FB.out _ (Below.refl _ _)).1.1)
        have qe1 : ∀ o : Obj, ((x12.alloc o).drew).cell? ⟨w.heap.size, 1, none⟩ = some (u0) := fun o => (World.cell?_alloc_lt _ _ _ (Rec.lt_of_cell ((FB.out _ (Below.refl _ _)).1.2.1))).trans ((FB.out _ (Below.refl _ _)).1.2.1)
        have qe2 : ∀ o : Obj, ((x12.alloc o).drew).cell? ⟨w.heap.size, 2, none⟩ = some (.string ⟨b0.toArray⟩) := fun o => (World.cell?_alloc_lt _ _ _ (Rec.lt_of_cell ((FB.out _ (Below.refl _ _)).1.2.2))).trans ((FB.out _ (Below.refl _ _)).1.2.2)
        have qe3 : ∀ o : Obj, ((x12.alloc o).drew).cell? ⟨w.heap.size + 1, 0, none⟩ = some (.int .i64 x2) := fun o => (World.cell?_alloc_lt _ _ _ (Rec.lt_of_cell ((FB.out _ (Below.refl _ _)).2.1.1))).trans ((FB.out _ (Below.refl _ _)).2.1.1)
        have qe4 : ∀ o : Obj, ((x12.alloc o).drew).cell? ⟨w.heap.size + 1, 1, none⟩ = some (.int .i64 y2) := fun o => (World.cell?_alloc_lt _ _ _ (Rec.lt_of_cell ((FB.out _ (Below.refl _ _)).2.1.2.1))).trans ((FB.out _ (Below.refl _ _)).2.1.2.1)
        have qe5 : ∀ o : Obj, ((x12.alloc o).drew).cell? ⟨w.heap.size + 1, 2, none⟩ = some (.int .i64 k2) := fun o => (World.cell?_alloc_lt _ _ _ (Rec.lt_of_cell ((FB.out _ (Below.refl _ _)).2.1.2.2))).trans ((FB.out _ (Below.refl _ _)).2.1.2.2)
        go_wp2
        go_region_held3 (fun u => u.cell? ⟨w.heap.size, 0, none⟩ = some (.int .i64 c0) ∧ u.cell? ⟨w.heap.size, 1, none⟩ = some (u0) ∧ u.cell? ⟨w.heap.size, 2, none⟩ = some (.string ⟨b0.toArray⟩) ∧ u.cell? ⟨w.heap.size + 1, 0, none⟩ = some (.int .i64 x2) ∧ u.cell? ⟨w.heap.size + 1, 1, none⟩ = some (.int .i64 y2) ∧ u.cell? ⟨w.heap.size + 1, 2, none⟩ = some (.int .i64 k2))
          (first | with_reducible exact ⟨qc0, qc1, qc2, qc3, qc4, qc5⟩ | with_reducible exact ⟨qk0 _, qk1 _, qk2 _, qk3 _, qk4 _, qk5 _⟩ | with_reducible exact ⟨qe0 _, qe1 _, qe2 _, qe3 _, qe4 _, qe5 _⟩ | (refine ⟨?_, ?_, ?_, ?_, ?_, ?_⟩ <;> (with_reducible refine (World.cell?_setCell_other _ _ _ _ (fun e => by have h8 := congrArg Addr.block e; have h9 := HC5.out.size; simp at h8; omega)).trans ((World.cell?_setCell_other _ _ _ _ (fun e => by have h8 := congrArg Addr.block e; have h9 := HC5.out.size; simp at h8; omega)).trans ((World.cell?_setCell_other _ _ _ _ (fun e => by have h8 := congrArg Addr.block e; have h9 := HC5.out.size; simp at h8; omega)).trans ?_)); first | with_reducible exact qc0 | with_reducible exact qc1 | with_reducible exact qc2 | with_reducible exact qc3 | with_reducible exact qc4 | with_reducible exact qc5 | with_reducible exact qk0 _ | with_reducible exact qk1 _ | with_reducible exact qk2 _ | with_reducible exact qk3 _ | with_reducible exact qk4 _ | with_reducible exact qk5 _)))
          (first | (go_at_call 9; (try (with_reducible refine with_drew (fun hal hkz => ?_); have HC5 := Lib.hid hal; have hkg := Nat.le_refl x12.heap.size; clear hal)); (try (with_reducible refine with_alloc (fun hal hkz => ?_); have hkg := HC5.out.size; have HC5 := Lib.hid (Base.then_below HC5.out hal); (try have HP := Lib.hid (Flds.holds_more (Flds.holds_below HP.out hal) hal.size)); clear hal)); (try (clear qc0 qk0 qc1 qk1 qc2 qk2 qc3 qk3 qc4 qk4 qc5 qk5)); (try (clear qe0 qe1 qe2 qe3 qe4 qe5)); refine (Msg.copy_rsp c0 u0 l0 b0 w.heap.size _ ((FB.out _ HC5.out).2.2.1) (by have h9 := HC5.out.size; omega) HL0.out).mono ?_; rintro e xq ⟨vP, rfl, oq, bq⟩; (try have HP := Lib.hid (Flds.holds_more (Flds.holds_below HP.out bq) bq.size)); (try have hkz := hkz.below bq); have HC5 := Lib.hid (Base.then_below HC5.out bq); have HP := Lib.hid (Flds.own_holds oq); clear bq oq; have qc0 := (FB.out _ HC5.out).1.1; have qc1 := (FB.out _ HC5.out).1.2.1; have qc2 := (FB.out _ HC5.out).1.2.2; have qc3 := (FB.out _ HC5.out).2.1.1; have qc4 := (FB.out _ HC5.out).2.1.2.1; have qc5 := (FB.out _ HC5.out).2.1.2.2; have qk0 : ∀ o : Obj, (xq.alloc o).cell? ⟨w.heap.size, 0, none⟩ = some (.int .i64 c0) := fun o => (World.cell?_alloc_lt _ _ _ (Rec.lt_of_cell qc0)).trans qc0; have qk1 : ∀ o : Obj, (xq.alloc o).cell? ⟨w.heap.size, 1, none⟩ = some (u0) := fun o => (World.cell?_alloc_lt _ _ _ (Rec.lt_of_cell qc1)).trans qc1; have qk2 : ∀ o : Obj, (xq.alloc o).cell? ⟨w.heap.size, 2, none⟩ = some (.string ⟨b0.toArray⟩) := fun o => (World.cell?_alloc_lt _ _ _ (Rec.lt_of_cell qc2)).trans qc2; have qk3 : ∀ o : Obj, (xq.alloc o).cell? ⟨w.heap.size + 1, 0, none⟩ = some (.int .i64 x2) := fun o => (World.cell?_alloc_lt _ _ _ (Rec.lt_of_cell qc3)).trans qc3; have qk4 : ∀ o : Obj, (xq.alloc o).cell? ⟨w.heap.size + 1, 1, none⟩ = some (.int .i64 y2) := fun o => (World.cell?_alloc_lt _ _ _ (Rec.lt_of_cell qc4)).trans qc4; have qk5 : ∀ o : Obj, (xq.alloc o).cell? ⟨w.heap.size + 1, 2, none⟩ = some (.int .i64 k2) := fun o => (World.cell?_alloc_lt _ _ _ (Rec.lt_of_cell qc5)).trans qc5) | (go_at_call 10; (try (with_reducible refine with_drew (fun hal hkz => ?_); have HC5 := Lib.hid hal; have hkg := Nat.le_refl x12.heap.size; clear hal)); (try (with_reducible refine with_alloc (fun hal hkz => ?_); have hkg := HC5.out.size; have HC5 := Lib.hid (Base.then_below HC5.out hal); (try have HP := Lib.hid (Flds.holds_more (Flds.holds_below HP.out hal) hal.size)); clear hal)); (try (clear qc0 qk0 qc1 qk1 qc2 qk2 qc3 qk3 qc4 qk4 qc5 qk5)); (try (clear qe0 qe1 qe2 qe3 qe4 qe5)); refine (Hps.copy_two x2 y2 k2 _).mono ?_; rintro e xq ⟨rfl, bq⟩; (try have HP := Lib.hid (Flds.holds_more (Flds.holds_below HP.out bq) bq.size)); (try have hkz := hkz.below bq); have HC5 := Lib.hid (Base.then_below HC5.out bq); clear bq; have qc0 := (FB.out _ HC5.out).1.1; have qc1 := (FB.out _ HC5.out).1.2.1; have qc2 := (FB.out _ HC5.out).1.2.2; have qc3 := (FB.out _ HC5.out).2.1.1; have qc4 := (FB.out _ HC5.out).2.1.2.1; have qc5 := (FB.out _ HC5.out).2.1.2.2; have qk0 : ∀ o : Obj, (xq.alloc o).cell? ⟨w.heap.size, 0, none⟩ = some (.int .i64 c0) := fun o => (World.cell?_alloc_lt _ _ _ (Rec.lt_of_cell qc0)).trans qc0; have qk1 : ∀ o : Obj, (xq.alloc o).cell? ⟨w.heap.size, 1, none⟩ = some (u0) := fun o => (World.cell?_alloc_lt _ _ _ (Rec.lt_of_cell qc1)).trans qc1; have qk2 : ∀ o : Obj, (xq.alloc o).cell? ⟨w.heap.size, 2, none⟩ = some (.string ⟨b0.toArray⟩) := fun o => (World.cell?_alloc_lt _ _ _ (Rec.lt_of_cell qc2)).trans qc2; have qk3 : ∀ o : Obj, (xq.alloc o).cell? ⟨w.heap.size + 1, 0, none⟩ = some (.int .i64 x2) := fun o => (World.cell?_alloc_lt _ _ _ (Rec.lt_of_cell qc3)).trans qc3; have qk4 : ∀ o : Obj, (xq.alloc o).cell? ⟨w.heap.size + 1, 1, none⟩ = some (.int .i64 y2) := fun o => (World.cell?_alloc_lt _ _ _ (Rec.lt_of_cell qc4)).trans qc4; have qk5 : ∀ o : Obj, (xq.alloc o).cell? ⟨w.heap.size + 1, 2, none⟩ = some (.int .i64 k2) := fun o => (World.cell?_alloc_lt _ _ _ (Rec.lt_of_cell qc5)).trans qc5) | (go_at_call 11; (try (with_reducible refine with_drew (fun hal hkz => ?_); have HC5 := Lib.hid hal; have hkg := Nat.le_refl x12.heap.size; clear hal)); (try (with_reducible refine with_alloc (fun hal hkz => ?_); have hkg := HC5.out.size; have HC5 := Lib.hid (Base.then_below HC5.out hal); (try have HP := Lib.hid (Flds.holds_more (Flds.holds_below HP.out hal) hal.size)); clear hal)); (try (clear qc0 qk0 qc1 qk1 qc2 qk2 qc3 qk3 qc4 qk4 qc5 qk5)); (try (clear qe0 qe1 qe2 qe3 qe4 qe5)); (try have hgl := Rec.lt_of_cell (hkz.cell 0 _ rfl)); have hb9 := HC5.out.size; refine (HPI.out _ _ _ HP.out (Nat.le_refl _) ((FB.out _ HC5.out).2.2.2.2.2.2.2)).mono ?_; rintro e xr ⟨vR, rfl, oR, bq⟩; obtain ⟨aR, cpR, rfl, _⟩ := Rec.shape_at oR; (try have hkz := hkz.below bq); have HC5 := Lib.hid (Base.then_below HC5.out bq); have HOR := Lib.hid oR; (try have q0 := hkz.cell 0 _ rfl); (try have q1 := hkz.cell 1 _ rfl); (try have q2 := hkz.cell 2 _ rfl); (try have f0 := hkz.frz 0); (try have f1 := hkz.frz 1); (try have f2 := hkz.frz 2); clear bq oR HP; have qc0 := (FB.out _ HC5.out).1.1; have qc1 := (FB.out _ HC5.out).1.2.1; have qc2 := (FB.out _ HC5.out).1.2.2; have qc3 := (FB.out _ HC5.out).2.1.1; have qc4 := (FB.out _ HC5.out).2.1.2.1; have qc5 := (FB.out _ HC5.out).2.1.2.2; have qk0 : ∀ o : Obj, (xr.alloc o).cell? ⟨w.heap.size, 0, none⟩ = some (.int .i64 c0) := fun o => (World.cell?_alloc_lt _ _ _ (Rec.lt_of_cell qc0)).trans qc0; have qk1 : ∀ o : Obj, (xr.alloc o).cell? ⟨w.heap.size, 1, none⟩ = some (u0) := fun o => (World.cell?_alloc_lt _ _ _ (Rec.lt_of_cell qc1)).trans qc1; have qk2 : ∀ o : Obj, (xr.alloc o).cell? ⟨w.heap.size, 2, none⟩ = some (.string ⟨b0.toArray⟩) := fun o => (World.cell?_alloc_lt _ _ _ (Rec.lt_of_cell qc2)).trans qc2; have qk3 : ∀ o : Obj, (xr.alloc o).cell? ⟨w.heap.size + 1, 0, none⟩ = some (.int .i64 x2) := fun o => (World.cell?_alloc_lt _ _ _ (Rec.lt_of_cell qc3)).trans qc3; have qk4 : ∀ o : Obj, (xr.alloc o).cell? ⟨w.heap.size + 1, 1, none⟩ = some (.int .i64 y2) := fun o => (World.cell?_alloc_lt _ _ _ (Rec.lt_of_cell qc4)).trans qc4; have qk5 : ∀ o : Obj, (xr.alloc o).cell? ⟨w.heap.size + 1, 2, none⟩ = some (.int .i64 k2) := fun o => (World.cell?_alloc_lt _ _ _ (Rec.lt_of_cell qc5)).trans qc5))
        all_goals (go_wp2_with fail; go_meet)
        all_goals first | (have hg' := hkg; have hbx := (((hkz.same (k := 0) (by simp) (.int .i64 c0)).same (k := 1) (by simp) ((.slice aR g0.length cpR))).same (k := 2) (by simp) (.string ⟨b0.toArray⟩)); have hnk := fun k (e : Value.ownBlock (.slice aR g0.length cpR) = some k) => Nat.ne_of_gt (Nat.lt_of_lt_of_le hgl (World.ownsRow.lt HOR.out k e).1); have hne : Value.ownBlock (.slice aR g0.length cpR) ≠ some _ := fun e => hnk _ e rfl; exact ⟨_, _, _, rfl, rfl, hkg, Lib.hid hnk, Lib.hid ⟨hbx.cell 0 _ rfl, hbx.cell 1 _ rfl, hbx.cell 2 _ rfl⟩, Lib.hid (Rec.own_mono (ownsRow_setCell_other (a := ⟨_, 2, none⟩) (ownsRow_setCell_other (a := ⟨_, 1, none⟩) (ownsRow_setCell_other (a := ⟨_, 0, none⟩) HOR.out hne (.int .i64 c0)) hne ((.slice aR g0.length cpR))) hne (.string ⟨b0.toArray⟩)) hb9), Lib.hid (((HC5.out.setCell hkg _).setCell hkg _).setCell hkg _)⟩) | (have hbx := Kept.Box.new (w := xr) (T := 30) (a := #[.int .i64 c0, (.slice aR g0.length cpR), .string ⟨b0.toArray⟩]); exact ⟨_, _, _, rfl, rfl, HC5.out.size, Lib.hid (fun k e => Nat.ne_of_lt (World.ownsRow.lt HOR.out k e).2), Lib.hid ⟨hbx.cell 0 _ rfl, hbx.cell 1 _ rfl, hbx.cell 2 _ rfl⟩, Lib.hid (Rec.own_mono (Flds.row_below HOR.out ((Below.refl xr.heap.size xr).alloc (Nat.le_refl _) _)) hb9), Lib.hid (HC5.out.alloc HC5.out.size _)⟩)
      case rest =>
        rename World => wz13
        obtain ⟨gH, aH, cpH, rfl, rfl, hgH, HDH, HZH, HOH, HC5⟩ := hcut
        obtain ⟨f0, f1, f2, f3, f4, f5, f6, fb⟩ := FB.out _ HC5.out
        have HX0 := Lib.hid f0
        have HX2 := Lib.hid f1
        have HY0 := Lib.hid f2
        have HZW := Lib.hid f3
        have HW := Lib.hid f4
        have HZG := Lib.hid f5
        have HG := Lib.hid f6
        have HB := Lib.hid fb
        have hsr13 := HB.out.size
        have hsc13 := HC5.out.size
        have hlzH := Rec.lt_of_cell (HZH.out.1)
        clear FB HC5 f0 f1 f2 f3 f4 f5 f6 fb
        have HH := Lib.hid (Flds.own_holds HOH.out)
        clear HOH
        have HZHo := HZH.out
        obtain ⟨hzh_0, hzh_1, hzh_2⟩ := HZHo
        have HZWo := HZW.out
        obtain ⟨hzw_0, hzw_1, hzw_2⟩ := HZWo
        go_wp2_with (fail)
        go_at_call 12
        refine (Msg.eq_rsp_wide c0 (.slice aH g0.length cpH) g0 b0 (.slice aW g0.length cpW) _ _ _ HH.out HW.out (by omega) (by omega) (by have := HK.out; omega)).mono ?_
        rintro e x14 ⟨rfl, b14⟩
        have hs14 := b14.size
        clear hzh_0 hzh_1 hzh_2
        clear hzw_0 hzw_1 hzw_2
        have HX0 := Lib.hid (And.intro ((b14.cell (p := ⟨w.heap.size, 0, none⟩) (Rec.lt_of_cell (HX0.out.1))).trans (HX0.out.1)) (And.intro ((b14.cell (p := ⟨w.heap.size, 1, none⟩) (Rec.lt_of_cell (HX0.out.2.1))).trans (HX0.out.2.1)) ((b14.cell (p := ⟨w.heap.size, 2, none⟩) (Rec.lt_of_cell (HX0.out.2.2))).trans (HX0.out.2.2))))
        have HX2 := Lib.hid (And.intro ((b14.cell (p := ⟨w.heap.size + 1, 0, none⟩) (Rec.lt_of_cell (HX2.out.1))).trans (HX2.out.1)) (And.intro ((b14.cell (p := ⟨w.heap.size + 1, 1, none⟩) (Rec.lt_of_cell (HX2.out.2.1))).trans (HX2.out.2.1)) ((b14.cell (p := ⟨w.heap.size + 1, 2, none⟩) (Rec.lt_of_cell (HX2.out.2.2))).trans (HX2.out.2.2))))
        have HY0 := Lib.hid (Flds.holds_below HY0.out (b14.mono (by omega)))
        have HZW := Lib.hid (And.intro ((b14.cell (p := ⟨gW, 0, none⟩) (Rec.lt_of_cell (HZW.out.1))).trans (HZW.out.1)) (And.intro ((b14.cell (p := ⟨gW, 1, none⟩) (Rec.lt_of_cell (HZW.out.2.1))).trans (HZW.out.2.1)) ((b14.cell (p := ⟨gW, 2, none⟩) (Rec.lt_of_cell (HZW.out.2.2))).trans (HZW.out.2.2))))
        have HW := Lib.hid (Flds.holds_below HW.out (b14.mono (by omega)))
        have HZG := Lib.hid (And.intro ((b14.cell (p := ⟨gG, 0, none⟩) (Rec.lt_of_cell (HZG.out.1))).trans (HZG.out.1)) (And.intro ((b14.cell (p := ⟨gG, 1, none⟩) (Rec.lt_of_cell (HZG.out.2.1))).trans (HZG.out.2.1)) ((b14.cell (p := ⟨gG, 2, none⟩) (Rec.lt_of_cell (HZG.out.2.2))).trans (HZG.out.2.2))))
        have HG := Lib.hid (Flds.row_below HG.out b14)
        have HZH := Lib.hid (And.intro ((b14.cell (p := ⟨gH, 0, none⟩) (Rec.lt_of_cell (HZH.out.1))).trans (HZH.out.1)) (And.intro ((b14.cell (p := ⟨gH, 1, none⟩) (Rec.lt_of_cell (HZH.out.2.1))).trans (HZH.out.2.1)) ((b14.cell (p := ⟨gH, 2, none⟩) (Rec.lt_of_cell (HZH.out.2.2))).trans (HZH.out.2.2))))
        have HH := Lib.hid (Flds.holds_below HH.out (b14.mono (by omega)))
        have HB := Lib.hid (Base.then_below HB.out b14)
        clear b14
        have HZGo := HZG.out
        obtain ⟨hzg_0, hzg_1, hzg_2⟩ := HZGo
        go_wp2_with (fail)
        go_at_call 14
        refine (Mark.held_rsp c0 b0 _ (.slice aG g0.length cpG) 1 g0.length _ (Flds.own_holds HG.out) (by omega) (by omega) (by have := HK.out; omega)).mono ?_
        rintro e x15 ⟨rfl, b15⟩
        have hs15 := b15.size
        clear hzg_0 hzg_1 hzg_2
        have HX0 := Lib.hid (And.intro ((b15.cell (p := ⟨w.heap.size, 0, none⟩) (Rec.lt_of_cell (HX0.out.1))).trans (HX0.out.1)) (And.intro ((b15.cell (p := ⟨w.heap.size, 1, none⟩) (Rec.lt_of_cell (HX0.out.2.1))).trans (HX0.out.2.1)) ((b15.cell (p := ⟨w.heap.size, 2, none⟩) (Rec.lt_of_cell (HX0.out.2.2))).trans (HX0.out.2.2))))
        have HX2 := Lib.hid (And.intro ((b15.cell (p := ⟨w.heap.size + 1, 0, none⟩) (Rec.lt_of_cell (HX2.out.1))).trans (HX2.out.1)) (And.intro ((b15.cell (p := ⟨w.heap.size + 1, 1, none⟩) (Rec.lt_of_cell (HX2.out.2.1))).trans (HX2.out.2.1)) ((b15.cell (p := ⟨w.heap.size + 1, 2, none⟩) (Rec.lt_of_cell (HX2.out.2.2))).trans (HX2.out.2.2))))
        have HY0 := Lib.hid (Flds.holds_below HY0.out (b15.mono (by omega)))
        have HZG := Lib.hid (And.intro ((b15.cell (p := ⟨gG, 0, none⟩) (Rec.lt_of_cell (HZG.out.1))).trans (HZG.out.1)) (And.intro ((b15.cell (p := ⟨gG, 1, none⟩) (Rec.lt_of_cell (HZG.out.2.1))).trans (HZG.out.2.1)) ((b15.cell (p := ⟨gG, 2, none⟩) (Rec.lt_of_cell (HZG.out.2.2))).trans (HZG.out.2.2))))
        have HG := Lib.hid (Flds.row_below HG.out b15)
        have HB := Lib.hid (Base.then_below HB.out b15)
        clear b15
        go_wp2
        go_ret
        exact ⟨rfl, HB.out⟩

end Go.Proofs.YtojmkdggkaocdaaGreatDoor.fnExactPassHop
