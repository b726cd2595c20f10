/-
  PROVED: at every sketch the program's IsSketch gives what its model gives and writes into no argument: the exact law of IsSketch returns true and leaves its argument as it was. CONDITION: none.
-/
import Derived.Test.YtfgpphbfampjjaaBase
import Derived.Carry
import Derived.Test.YtfgpphbfampjjaaSkIs
import Derived.Test.YtfgpphbfampjjaaSkCp
import Derived.RegionTactic
import Derived.Deep.RegionWith
namespace Go.Proofs.Ytfgpphbfampjjaa.fnExactIsSketch
open Go.ChangeShapes Go.WideShapes Go.ChangeAt Go.RowKit
set_option linter.unusedVariables false

theorem own : ownKnob Try.prog.godebug = none := by kernel_rfl

theorem laidOut : laidOutB Try.prog = true := by kernel_rfl

set_option maxHeartbeats 4000000 in
theorem walk (u0 : Value) (z0 : List Int) (n0 : Int) (w0 : Sk.Ok z0 n0) (w : World) (y0 : Nums.Holds w u0 z0) :
    Calls Try.prog 6 #[.agg #[u0, .int .i64 n0]] w fun e w' => e = .returned (.bool true) ∧ Below w.heap.size w w' := by
  have HW0 := Lib.hid w0
  have HYs := Lib.hid y0
  clear w0 y0
  have HB : Hid (Below w.heap.size w (w.alloc (.cells #[u0, .int .i64 n0] 42))) := Lib.hid ((Below.refl w.heap.size w).alloc (by simp) (.cells #[u0, .int .i64 n0] 42))
  have hz0' : w.heap.size < (w.alloc (.cells #[u0, .int .i64 n0] 42)).heap.size := by simp
  have HX0 : Hid ((w.alloc (.cells #[u0, .int .i64 n0] 42)).cell? ⟨w.heap.size, 0, none⟩ = some (u0) ∧ (w.alloc (.cells #[u0, .int .i64 n0] 42)).cell? ⟨w.heap.size, 1, none⟩ = some (.int .i64 n0)) := Lib.hid ⟨by rw [World.cell?_alloc_new]; rfl, by rw [World.cell?_alloc_new]; rfl⟩
  have HYs := Lib.hid (Nums.holds_below HYs.out (HB.out.mono (Nat.le_refl _)))
  have hszw := HB.out.size
  go_enter Try.func6, Try.ntmps6
  have HX0o := HX0.out
  obtain ⟨hx0_0, hx0_1⟩ := HX0o
  go_wp2_with (fail)
  go_at_call 24
  refine (Sk.size_sk u0 z0 n0 _ _ HYs.out HW0.out (by decide) (by decide)).mono ?_
  rintro e x1 ⟨z_0, rfl, hz0, b1⟩
  have hs1 := b1.size
  clear hx0_0 hx0_1
  have HYs := Lib.hid (Nums.holds_below HYs.out (b1.mono (by omega)))
  have HX0 := Lib.hid (And.intro ((b1.cell (p := ⟨w.heap.size, 0, none⟩) (Rec.lt_of_cell (HX0.out.1))).trans (HX0.out.1)) ((b1.cell (p := ⟨w.heap.size, 1, none⟩) (Rec.lt_of_cell (HX0.out.2))).trans (HX0.out.2)))
  have HB := Lib.hid (Base.then_below HB.out b1)
  clear b1
  rcases hz0 with hz0 | ⟨hz0, ht0⟩
  · go_wp2
    go_ret
    exact ⟨rfl, HB.out⟩
  have hzn0 : ¬ z_0 < 0 := by omega
  have HZ0 : Hid (z_0 + ((z0.length : Nat) : Int) = 1048576) := Lib.hid (by omega)
  clear ht0
  have HLs : Hid (z0.length ≤ 1048576) := Lib.hid (by have := HZ0.out; omega)
  obtain ⟨g0, hg0⟩ : ∃ z, z = Sk.skOk z0 n0 := ⟨_, rfl⟩
  have HGg0 := Lib.hid hg0
  clear hg0
  have HX0o := HX0.out
  obtain ⟨hx0_0, hx0_1⟩ := HX0o
  go_wp2_with (fail)
  go_at_call 26
  refine (Sk.copy_sk u0 z0 n0 _ HYs.out HLs.out).mono ?_
  rintro e x2 ⟨vAs, rfl, oAs, b2⟩
  have hs2 := b2.size
  obtain ⟨aAs, cAs, rfl, _⟩ := Rec.shape_at oAs
  clear hx0_0 hx0_1
  have HYs := Lib.hid (Nums.holds_below HYs.out (b2.mono (by omega)))
  have HX0 := Lib.hid (And.intro ((b2.cell (p := ⟨w.heap.size, 0, none⟩) (Rec.lt_of_cell (HX0.out.1))).trans (HX0.out.1)) ((b2.cell (p := ⟨w.heap.size, 1, none⟩) (Rec.lt_of_cell (HX0.out.2))).trans (HX0.out.2)))
  have HB := Lib.hid (Base.then_below HB.out b2)
  clear b2
  have HAs := Lib.hid (Nums.own_holds oAs)
  clear oAs
  go_wp2_with (fail)
  go_at_call 25
  refine (Sk.spec_iss (.slice aAs (z0.length) cAs) z0 n0 _ HAs.out HLs.out).mono ?_
  rintro e x3 ⟨he, b3⟩
  rw [← HGg0.out] at he
  subst he
  have hs3 := b3.size
  have HYs := Lib.hid (Nums.holds_below HYs.out (b3.mono (by omega)))
  have HX0 := Lib.hid (And.intro ((b3.cell (p := ⟨w.heap.size, 0, none⟩) (Rec.lt_of_cell (HX0.out.1))).trans (HX0.out.1)) ((b3.cell (p := ⟨w.heap.size, 1, none⟩) (Rec.lt_of_cell (HX0.out.2))).trans (HX0.out.2)))
  have HB := Lib.hid (Base.then_below HB.out b3)
  clear b3
  have HX0o := HX0.out
  obtain ⟨hx0_0, hx0_1⟩ := HX0o
  go_wp2_with (fail)
  go_at_call 26
  refine (Sk.copy_sk u0 z0 n0 _ HYs.out HLs.out).mono ?_
  rintro e x4 ⟨vXs, rfl, oXs, b4⟩
  have hs4 := b4.size
  obtain ⟨aXs, cXs, rfl, _⟩ := Rec.shape_at oXs
  clear hx0_0 hx0_1
  have HYs := Lib.hid (Nums.holds_below HYs.out (b4.mono (by omega)))
  have HX0 := Lib.hid (And.intro ((b4.cell (p := ⟨w.heap.size, 0, none⟩) (Rec.lt_of_cell (HX0.out.1))).trans (HX0.out.1)) ((b4.cell (p := ⟨w.heap.size, 1, none⟩) (Rec.lt_of_cell (HX0.out.2))).trans (HX0.out.2)))
  have HB := Lib.hid (Base.then_below HB.out b4)
  clear b4
  have HXs := Lib.hid (Nums.own_holds oXs)
  clear oXs
  have hsa5 : (x4.alloc (.cells #[(.slice aXs (z0.length) cXs), .int .i64 n0] 45)).heap.size = x4.heap.size + 1 := by simp
  have HYs := Lib.hid (Nums.holds_below HYs.out (((Below.refl x4.heap.size x4).alloc (Nat.le_refl _) (.cells #[(.slice aXs (z0.length) cXs), .int .i64 n0] 45)).mono (by omega)))
  have HX0 := Lib.hid (And.intro ((((Below.refl x4.heap.size x4).alloc (Nat.le_refl _) (.cells #[(.slice aXs (z0.length) cXs), .int .i64 n0] 45)).cell (p := ⟨w.heap.size, 0, none⟩) (Rec.lt_of_cell (HX0.out.1))).trans (HX0.out.1)) ((((Below.refl x4.heap.size x4).alloc (Nat.le_refl _) (.cells #[(.slice aXs (z0.length) cXs), .int .i64 n0] 45)).cell (p := ⟨w.heap.size, 1, none⟩) (Rec.lt_of_cell (HX0.out.2))).trans (HX0.out.2)))
  have HXs := Lib.hid (Nums.holds_below HXs.out (((Below.refl x4.heap.size x4).alloc (Nat.le_refl _) (.cells #[(.slice aXs (z0.length) cXs), .int .i64 n0] 45)).mono (by omega)))
  have HB := Lib.hid (HB.out.alloc HB.out.size (.cells #[(.slice aXs (z0.length) cXs), .int .i64 n0] 45))
  have HZX : Hid ((x4.alloc (.cells #[(.slice aXs (z0.length) cXs), .int .i64 n0] 45)).cell? ⟨x4.heap.size, 0, none⟩ = some ((.slice aXs (z0.length) cXs)) ∧ (x4.alloc (.cells #[(.slice aXs (z0.length) cXs), .int .i64 n0] 45)).cell? ⟨x4.heap.size, 1, none⟩ = some (.int .i64 n0)) := Lib.hid ⟨by rw [World.cell?_alloc_new]; rfl, by rw [World.cell?_alloc_new]; rfl⟩
  have HZXo := HZX.out
  obtain ⟨hzx_0, hzx_1⟩ := HZXo
  go_wp2_with (fail)
  go_at_call 27
  refine (Sk.impl_iss (.slice aXs (z0.length) cXs) z0 n0 _ HXs.out HLs.out).mono ?_
  rintro e x6 ⟨he, b6⟩
  rw [← HGg0.out] at he
  subst he
  have hs6 := b6.size
  clear hzx_0 hzx_1
  have HYs := Lib.hid (Nums.holds_below HYs.out (b6.mono (by omega)))
  have HX0 := Lib.hid (And.intro ((b6.cell (p := ⟨w.heap.size, 0, none⟩) (Rec.lt_of_cell (HX0.out.1))).trans (HX0.out.1)) ((b6.cell (p := ⟨w.heap.size, 1, none⟩) (Rec.lt_of_cell (HX0.out.2))).trans (HX0.out.2)))
  have HXs := Lib.hid (Nums.holds_below HXs.out (b6.mono (by omega)))
  have HZX := Lib.hid (And.intro ((b6.cell (p := ⟨x4.heap.size, 0, none⟩) (Rec.lt_of_cell (HZX.out.1))).trans (HZX.out.1)) ((b6.cell (p := ⟨x4.heap.size, 1, none⟩) (Rec.lt_of_cell (HZX.out.2))).trans (HZX.out.2)))
  have HB := Lib.hid (Base.then_below HB.out b6)
  clear b6
  have HX0 : Hid (x6.drew.cell? ⟨w.heap.size, 0, none⟩ = some (u0) ∧ x6.drew.cell? ⟨w.heap.size, 1, none⟩ = some (.int .i64 n0)) := Lib.hid HX0.out
  have HZX : Hid (x6.drew.cell? ⟨x4.heap.size, 0, none⟩ = some ((.slice aXs (z0.length) cXs)) ∧ x6.drew.cell? ⟨x4.heap.size, 1, none⟩ = some (.int .i64 n0)) := Lib.hid HZX.out
  have HYs : Hid (Nums.Holds x6.drew u0 z0) := Lib.hid HYs.out
  have HXs : Hid (Nums.Holds x6.drew (.slice aXs (z0.length) cXs) z0) := Lib.hid HXs.out
  have HB := Lib.hid (Rec.below_drew HB.out)
  have hdz7 : x6.drew.heap.size = x6.heap.size := rfl
  have qhx0_0 := HX0.out.1
  have qhx0_1 := HX0.out.2
  have qhzx_0 := HZX.out.1
  have qhzx_1 := HZX.out.2
  go_wp2
  go_region_with (first | (go_at_call 26; refine (Sk.copy_sk u0 z0 n0 _ HYs.out HLs.out).mono ?_; rintro e xq ⟨vCs, rfl, oCs, bq⟩; clear qhx0_0 qhx0_1 qhzx_0 qhzx_1; have hqz := bq.size; have HX0 := Lib.hid (And.intro ((bq.cell (p := ⟨w.heap.size, 0, none⟩) (Rec.lt_of_cell (HX0.out.1))).trans (HX0.out.1)) ((bq.cell (p := ⟨w.heap.size, 1, none⟩) (Rec.lt_of_cell (HX0.out.2))).trans (HX0.out.2))); have HZX := Lib.hid (And.intro ((bq.cell (p := ⟨x4.heap.size, 0, none⟩) (Rec.lt_of_cell (HZX.out.1))).trans (HZX.out.1)) ((bq.cell (p := ⟨x4.heap.size, 1, none⟩) (Rec.lt_of_cell (HZX.out.2))).trans (HZX.out.2))); have HYs := Lib.hid (Nums.holds_below HYs.out (bq.mono (by have h9 := HB.out.size; omega))); have HXs := Lib.hid (Nums.holds_below HXs.out (bq.mono (by have h9 := HB.out.size; omega))); have HB := Lib.hid (Base.then_below HB.out bq); have HCs := Lib.hid (Nums.own_holds oCs); have qhx0_0 := HX0.out.1; have qhx0_1 := HX0.out.2; have qhzx_0 := HZX.out.1; have qhzx_1 := HZX.out.2; clear bq oCs) | (go_at_call 28; refine (Sk.eq_sk (.slice aXs (z0.length) cXs) vCs z0 n0 _ HXs.out HCs.out HLs.out).mono ?_; rintro e xq ⟨rfl, bq⟩; have HB := Lib.hid (Base.then_below HB.out bq); clear bq HXs HCs qhx0_0 qhx0_1 qhzx_0 qhzx_1))
  all_goals go_wp2
  all_goals go_ret
  all_goals exact ⟨rfl, HB.out⟩

set_option maxRecDepth 100000 in
theorem lifted (os : Os) (started : os.Started) (H : Type) (enc : TypeId × Value → H) :
    ReturnsInHanded {} Try.checked os 6 .any (Rows.fnExactIsSketchSpec.pre6 enc Try.prog Try.f6 Rows.fnExactIsSketchRow.domain false) (Rows.fnExactIsSketchSpec.post enc Try.prog Try.f6 false true false false) := by
  refine returnsInHanded_of_change (C := Try.checked) own started (by kernel_rfl) Try.func6
    (ChangeSpec.witness6 (enc := enc) (C := Try.checked) false ⟨#[], #[.agg #[.slice none 0 0, .int .i64 0]], []⟩ 8 (by kernel_rfl) (by kernel_rfl) (by kernel_rfl) (by kernel_rfl)) ?_
  intro W base args ds gs before hval0 hW hcnd _
  have hval : ∀ (j : Nat) t v, Try.f6.params[j]? = some t → args[j]? = some v → Value.okWide Try.prog W .any base t v := hval0
  have hW' := hW
  obtain ⟨p, q, hA0, hV, rfl, hfz, hnd⟩ := hW
  have hA : DataW.TrodAll enc Try.prog W 0 (fun _ => true) true Try.f6.params.toList args.toList ds p := hA0
  rw [Try.params6] at hA hval
  obtain ⟨v0, vs0, d0, ds0, p0, q0, hargs, rfl, rfl, h0, r0⟩ := trodAll_cons hA
  obtain ⟨rfl, rfl, rfl⟩ := trodAll_nil r0
  obtain rfl : args = #[v0] := by cases args; simp_all
  obtain ⟨rfl, rfl⟩ := trodVars_none hV
  have k0 := h0
  obtain ⟨u0, z0, n0, rfl, y0_0, w0⟩ := Sk.open_sk (hval 0 42 v0 rfl rfl) h0
  have y0 := y0_0
  clear hA0 hval0
  simp only [List.append_nil] at hW'
  refine (walk u0 z0 n0 w0 W y0).mono fun e W' ⟨he, hb⟩ => ?_
  subst he
  exact ⟨_, rfl, ⟨_, _, _, [], _, [], hW', (trodAll_cons_mk (shut_bool Try.underlying4 _) trodAll_mk0), (trodAll_cons_mk (Below.trod laidOut (by kernel_rfl) (of_decide_eq_true (by kernel_rfl)) k0 hb (fun x hx => hW'.lt x (by simp [hx]))) trodAll_mk0), rfl, hb.frame _, fun h => by cases h⟩⟩

theorem over : Rows.fnExactIsSketchRow.holds Try.pinned (OpenSpec.ofChange Rows.fnExactIsSketchSpec) :=
  OpenClaim.holds_of_wide 6 Try.f6 rfl rfl rfl rfl rfl rfl rfl ⟨rfl, rfl, rfl, rfl, rfl⟩ rfl rfl rfl rfl rfl (by kernel_rfl) Try.func6 (by kernel_rfl)
    (of_decide_eq_true (by kernel_rfl)) (by unfold Func.isWrapper; first | (rw [if_pos (by decide +kernel)]; kernel_rfl) | (rw [if_neg (by decide +kernel)]; exact ⟨rfl, rfl⟩))
    (fun os started H enc _ => lifted os started H enc)

/-- The given statement. -/
theorem proved : Rows.FnExactIsSketchSaid :=
  over
#print axioms proved
end Go.Proofs.Ytfgpphbfampjjaa.fnExactIsSketch
