/-
  CONTRACTS AND PLAIN FACTS, several texts in one; each says in its own words what it proves.
-/
import Derived.Test.YtndbhjgfaghelaaGreatDoorPartA
import Derived.Carry
import Derived.Test.YtndbhjgfaghelaaGreatDoorPartU
import Derived.Test.YtndbhjgfaghelaaGreatDoorPartX
import Derived.Test.YtndbhjgfaghelaaGreatDoorPartL
import Derived.Test.YtndbhjgfaghelaaGreatDoorTie
import Derived.Test.YtndbhjgfaghelaaGreatDoorCards
import Derived.LaidMore
import Derived.Lay
import Derived.OpenVars
import Derived.Stop.LaidErr
import Derived.RegionTactic
import Derived.Deep.RegionWith
set_option linter.unusedSimpArgs false
set_option linter.unusedVariables false

/-
  PROVED: the walk of the law of IsOrigin: it returns true and leaves its arguments as they were. Mine.
-/
namespace Go.Proofs.YtndbhjgfaghelaaGreatDoor.fnExactIsOrigin
open Go.ChangeShapes Go.WideShapes Go.ChangeAt Go.RowKit
set_option linter.unusedVariables false
set_option maxRecDepth 1000000


set_option maxHeartbeats 4000000 in
theorem walk (h0 : List UInt8) (u0 : Value) (l0 : List Rsl.T) (w0 : Org.Ok h0 l0) (w : World) (y0 : Rsl.Holds w w.heap.size u0 l0) (her : Par.Errs w) (hmx : Sh.MxL w) :
    Calls Tryz.prog 6 #[.agg #[.string ⟨h0.toArray⟩, u0]] w fun e w' => e = .returned (.bool true) ∧ Below w.heap.size w w' := by
  have HER := Lib.hid her
  have HMX := Lib.hid hmx
  clear her hmx
  have HW0 := Lib.hid w0
  have HYu := Lib.hid y0
  clear w0 y0
  have HB : Hid (Below w.heap.size w (w.alloc (.cells #[.string ⟨h0.toArray⟩, u0] 58))) := Lib.hid ((Below.refl w.heap.size w).alloc (by simp) (.cells #[.string ⟨h0.toArray⟩, u0] 58))
  have hz0' : w.heap.size < (w.alloc (.cells #[.string ⟨h0.toArray⟩, u0] 58)).heap.size := by simp
  have HX0 : Hid ((w.alloc (.cells #[.string ⟨h0.toArray⟩, u0] 58)).cell? ⟨w.heap.size, 0, none⟩ = some (.string ⟨h0.toArray⟩) ∧ (w.alloc (.cells #[.string ⟨h0.toArray⟩, u0] 58)).cell? ⟨w.heap.size, 1, none⟩ = some (u0)) := Lib.hid ⟨by rw [World.cell?_alloc_new]; rfl, by rw [World.cell?_alloc_new]; rfl⟩
  have HYu := Lib.hid (Rsl.holds_below HYu.out (HB.out.mono (Nat.le_refl _)))
  have hszw := HB.out.size
  go_enter Tryz.func6, Tryz.ntmps6
  have HX0o := HX0.out
  obtain ⟨hx0_0, hx0_1⟩ := HX0o
  go_wp2_with (fail)
  go_at_call 32
  refine (Org.size_org h0 u0 l0 _ w.heap.size _ HYu.out (by omega) HW0.out (by decide) (by decide)).mono ?_
  rintro e x1 ⟨z_0, rfl, hz0, b1⟩
  have hs1 := b1.size
  clear hx0_0 hx0_1
  have HYu := Lib.hid (Rsl.holds_below HYu.out (b1.mono (by omega)))
  have HX0 := Lib.hid (And.intro ((b1.cell (p := ⟨w.heap.size, 0, none⟩) (Rec.lt_of_cell (HX0.out.1))).trans (HX0.out.1)) ((b1.cell (p := ⟨w.heap.size, 1, none⟩) (Rec.lt_of_cell (HX0.out.2))).trans (HX0.out.2)))
  have HB := Lib.hid (Base.then_below HB.out b1)
  clear b1
  rcases hz0 with hz0 | ⟨hz0, ht0⟩
  · go_wp2
    go_ret
    exact ⟨rfl, HB.out⟩
  have hzn0 : ¬ z_0 < 0 := by omega
  have HZ0 : Hid (z_0 + ((Org.tot h0 l0 : Nat) : Int) = 1048576) := Lib.hid (by omega)
  clear ht0
  have HLu : Hid ((l0.length ≤ 1048576 ∧ ∀ f ∈ l0, f.egs.length ≤ 1048576 ∧ f.evs.length ≤ 1048576)) := Lib.hid (⟨Nat.le_trans (Rsl.len_le_total l0) (by have := HZ0.out; unfold Org.tot at this; omega), fun f hf => by have h1 := Rsl.mem_total hf; have h2 := HZ0.out; unfold Org.tot at h2; unfold Rsl.wt at h1; unfold Res.tot Strs.total at h1; exact ⟨by omega, by have := Ver.len_le_total f.evs; omega⟩⟩)
  have HHL : Hid (h0.length ≤ 1048576) := Lib.hid (by have := HZ0.out; unfold Org.tot at this; omega)
  have HSM : Hid (∀ f ∈ l0, Orc.Sm1 f) := Lib.hid (Orc.sm_all (by have := HZ0.out; unfold Org.tot at this; omega))
  obtain ⟨r0, hr0⟩ : ∃ z, z = Orc.orgOk h0 l0 := ⟨_, rfl⟩
  have HGr0 := Lib.hid hr0
  clear hr0
  have HX0o := HX0.out
  obtain ⟨hx0_0, hx0_1⟩ := HX0o
  go_wp2_with (fail)
  go_at_call 34
  refine (Org.copy_org h0 u0 l0 w.heap.size _ HYu.out (by have h9 := HB.out.size; omega) HLu.out).mono ?_
  rintro e x2 ⟨vAu, rfl, oAu, b2⟩
  have hs2 := b2.size
  obtain ⟨aAu, cAu, rfl, _⟩ := Rsl.own_shape oAu
  clear hx0_0 hx0_1
  have HYu := Lib.hid (Rsl.holds_below HYu.out (b2.mono (by omega)))
  have HX0 := Lib.hid (And.intro ((b2.cell (p := ⟨w.heap.size, 0, none⟩) (Rec.lt_of_cell (HX0.out.1))).trans (HX0.out.1)) ((b2.cell (p := ⟨w.heap.size, 1, none⟩) (Rec.lt_of_cell (HX0.out.2))).trans (HX0.out.2)))
  have HB := Lib.hid (Base.then_below HB.out b2)
  clear b2
  have HAu := Lib.hid (Rsl.own_holds oAu)
  clear oAu
  go_wp2_with (fail)
  go_at_call 33
  refine (Orc.spec_org h0 (.slice aAu (l0.length) cAu) _ l0 _ HAu.out (by have h9 := HB.out.size; omega) HHL.out HLu.out.1 HSM.out).mono ?_
  rintro e x3 ⟨he, b3⟩
  rw [← HGr0.out] at he
  subst he
  have hs3 := b3.size
  have HYu := Lib.hid (Rsl.holds_below HYu.out (b3.mono (by omega)))
  have HX0 := Lib.hid (And.intro ((b3.cell (p := ⟨w.heap.size, 0, none⟩) (Rec.lt_of_cell (HX0.out.1))).trans (HX0.out.1)) ((b3.cell (p := ⟨w.heap.size, 1, none⟩) (Rec.lt_of_cell (HX0.out.2))).trans (HX0.out.2)))
  have HB := Lib.hid (Base.then_below HB.out b3)
  clear b3
  have HX0o := HX0.out
  obtain ⟨hx0_0, hx0_1⟩ := HX0o
  go_wp2_with (fail)
  go_at_call 34
  refine (Org.copy_org h0 u0 l0 w.heap.size _ HYu.out (by have h9 := HB.out.size; omega) HLu.out).mono ?_
  rintro e x4 ⟨vXu, rfl, oXu, b4⟩
  have hs4 := b4.size
  obtain ⟨aXu, cXu, rfl, _⟩ := Rsl.own_shape oXu
  clear hx0_0 hx0_1
  have HYu := Lib.hid (Rsl.holds_below HYu.out (b4.mono (by omega)))
  have HX0 := Lib.hid (And.intro ((b4.cell (p := ⟨w.heap.size, 0, none⟩) (Rec.lt_of_cell (HX0.out.1))).trans (HX0.out.1)) ((b4.cell (p := ⟨w.heap.size, 1, none⟩) (Rec.lt_of_cell (HX0.out.2))).trans (HX0.out.2)))
  have HB := Lib.hid (Base.then_below HB.out b4)
  clear b4
  have HXu := Lib.hid (Rsl.own_holds oXu)
  clear oXu
  have hsa5 : (x4.alloc (.cells #[.string ⟨h0.toArray⟩, (.slice aXu (l0.length) cXu)] 63)).heap.size = x4.heap.size + 1 := by simp
  have HYu := Lib.hid (Rsl.holds_below HYu.out (((Below.refl x4.heap.size x4).alloc (Nat.le_refl _) (.cells #[.string ⟨h0.toArray⟩, (.slice aXu (l0.length) cXu)] 63)).mono (by omega)))
  have HX0 := Lib.hid (And.intro ((((Below.refl x4.heap.size x4).alloc (Nat.le_refl _) (.cells #[.string ⟨h0.toArray⟩, (.slice aXu (l0.length) cXu)] 63)).cell (p := ⟨w.heap.size, 0, none⟩) (Rec.lt_of_cell (HX0.out.1))).trans (HX0.out.1)) ((((Below.refl x4.heap.size x4).alloc (Nat.le_refl _) (.cells #[.string ⟨h0.toArray⟩, (.slice aXu (l0.length) cXu)] 63)).cell (p := ⟨w.heap.size, 1, none⟩) (Rec.lt_of_cell (HX0.out.2))).trans (HX0.out.2)))
  have HXu := Lib.hid (Rsl.holds_below HXu.out (((Below.refl x4.heap.size x4).alloc (Nat.le_refl _) (.cells #[.string ⟨h0.toArray⟩, (.slice aXu (l0.length) cXu)] 63)).mono (by omega)))
  have HB := Lib.hid (HB.out.alloc HB.out.size (.cells #[.string ⟨h0.toArray⟩, (.slice aXu (l0.length) cXu)] 63))
  have HZX : Hid ((x4.alloc (.cells #[.string ⟨h0.toArray⟩, (.slice aXu (l0.length) cXu)] 63)).cell? ⟨x4.heap.size, 0, none⟩ = some (.string ⟨h0.toArray⟩) ∧ (x4.alloc (.cells #[.string ⟨h0.toArray⟩, (.slice aXu (l0.length) cXu)] 63)).cell? ⟨x4.heap.size, 1, none⟩ = some ((.slice aXu (l0.length) cXu))) := Lib.hid ⟨by rw [World.cell?_alloc_new]; rfl, by rw [World.cell?_alloc_new]; rfl⟩
  have HZXo := HZX.out
  obtain ⟨hzx_0, hzx_1⟩ := HZXo
  go_wp2_with (fail)
  go_at_call 35
  refine (Orc.impl_org h0 (.slice aXu (l0.length) cXu) _ l0 _ HXu.out (by have h9 := HB.out.size; omega) HHL.out HLu.out.1 HSM.out (Par.errs_below HER.out HB.out) (Sh.mxl_below HMX.out HB.out)).mono ?_
  rintro e x6 ⟨he, b6⟩
  rw [← HGr0.out] at he
  subst he
  have hs6 := b6.size
  clear hzx_0 hzx_1
  have HYu := Lib.hid (Rsl.holds_below HYu.out (b6.mono (by omega)))
  have HX0 := Lib.hid (And.intro ((b6.cell (p := ⟨w.heap.size, 0, none⟩) (Rec.lt_of_cell (HX0.out.1))).trans (HX0.out.1)) ((b6.cell (p := ⟨w.heap.size, 1, none⟩) (Rec.lt_of_cell (HX0.out.2))).trans (HX0.out.2)))
  have HXu := Lib.hid (Rsl.holds_below HXu.out (b6.mono (by omega)))
  have HZX := Lib.hid (And.intro ((b6.cell (p := ⟨x4.heap.size, 0, none⟩) (Rec.lt_of_cell (HZX.out.1))).trans (HZX.out.1)) ((b6.cell (p := ⟨x4.heap.size, 1, none⟩) (Rec.lt_of_cell (HZX.out.2))).trans (HZX.out.2)))
  have HB := Lib.hid (Base.then_below HB.out b6)
  clear b6
  have HX0 : Hid (x6.drew.cell? ⟨w.heap.size, 0, none⟩ = some (.string ⟨h0.toArray⟩) ∧ x6.drew.cell? ⟨w.heap.size, 1, none⟩ = some (u0)) := Lib.hid HX0.out
  have HZX : Hid (x6.drew.cell? ⟨x4.heap.size, 0, none⟩ = some (.string ⟨h0.toArray⟩) ∧ x6.drew.cell? ⟨x4.heap.size, 1, none⟩ = some ((.slice aXu (l0.length) cXu))) := Lib.hid HZX.out
  have HYu : Hid (Rsl.Holds x6.drew w.heap.size u0 l0) := Lib.hid HYu.out
  have HXu : Hid (Rsl.Holds x6.drew _ (.slice aXu (l0.length) cXu) l0) := Lib.hid HXu.out
  have HB := Lib.hid (Rec.below_drew HB.out)
  have hdz7 : x6.drew.heap.size = x6.heap.size := rfl
  have qhx0_0 := HX0.out.1
  have qhx0_1 := HX0.out.2
  have qhzx_0 := HZX.out.1
  have qhzx_1 := HZX.out.2
  go_wp2
  go_region_with (first | (go_at_call 34; refine (Org.copy_org h0 u0 l0 w.heap.size _ HYu.out (by have h9 := HB.out.size; omega) HLu.out).mono ?_; rintro e xq ⟨vCu, rfl, oCu, bq⟩; clear qhx0_0 qhx0_1 qhzx_0 qhzx_1; have hqz := bq.size; have HX0 := Lib.hid (And.intro ((bq.cell (p := ⟨w.heap.size, 0, none⟩) (Rec.lt_of_cell (HX0.out.1))).trans (HX0.out.1)) ((bq.cell (p := ⟨w.heap.size, 1, none⟩) (Rec.lt_of_cell (HX0.out.2))).trans (HX0.out.2))); have HZX := Lib.hid (And.intro ((bq.cell (p := ⟨x4.heap.size, 0, none⟩) (Rec.lt_of_cell (HZX.out.1))).trans (HZX.out.1)) ((bq.cell (p := ⟨x4.heap.size, 1, none⟩) (Rec.lt_of_cell (HZX.out.2))).trans (HZX.out.2))); have HYu := Lib.hid (Rsl.holds_below HYu.out (bq.mono (by have h9 := HB.out.size; omega))); have HXu := Lib.hid (Rsl.holds_below HXu.out (bq.mono (by have h9 := HB.out.size; omega))); have HB := Lib.hid (Base.then_below HB.out bq); have HCu := Lib.hid (Rsl.own_holds oCu); have qhx0_0 := HX0.out.1; have qhx0_1 := HX0.out.2; have qhzx_0 := HZX.out.1; have qhzx_1 := HZX.out.2; clear bq oCu) | (go_at_call 36; refine (Org.eq_org h0 (.slice aXu (l0.length) cXu) l0 vCu _ _ _ HXu.out (by have h9 := HB.out.size; omega) HCu.out (by omega) HLu.out).mono ?_; rintro e xq ⟨rfl, bq⟩; have HB := Lib.hid (Base.then_below HB.out bq); clear bq HXu HCu qhx0_0 qhx0_1 qhzx_0 qhzx_1))
  all_goals go_wp2
  all_goals go_ret
  all_goals exact ⟨rfl, HB.out⟩

end Go.Proofs.YtndbhjgfaghelaaGreatDoor.fnExactIsOrigin
