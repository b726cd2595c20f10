/-
  PROVED: at any purge the program's IsPurge returns what its model returns: the exact law of IsPurge returns true and leaves its argument as it was. CONDITION: none.
-/
import Derived.Test.YtfgpphbfampjjaaBase
import Derived.Carry
import Derived.Test.YtfgpphbfampjjaaPurArg
import Derived.Test.YtfgpphbfampjjaaPurCp
import Derived.Test.YtfgpphbfampjjaaPurIs
namespace Go.Proofs.Ytfgpphbfampjjaa.fnExactIsPurge
open Go.ChangeShapes Go.WideShapes Go.ChangeAt Go.RowKit
set_option linter.unusedVariables false

theorem own : ownKnob Try.prog.godebug = none := by kernel_rfl

theorem laidOut : laidOutB Try.prog = true := by kernel_rfl

set_option maxHeartbeats 4000000 in
theorem walk (f0 : Pur.T) (w0 : Pur.Ok f0) (w : World)  :
    Calls Try.prog 3 #[Pur.fv f0] w fun e w' => e = .returned (.bool true) ∧ Below w.heap.size w w' := by
  have HW0 := Lib.hid w0
  clear w0
  obtain ⟨p0_0, p0_1, p0_2⟩ := f0
  try unfold Pur.fv
  dsimp only
  have HB0' : Below w.heap.size w (w.alloc (.cells #[.int .i64 (p0_0), .int .i64 (p0_1), .string ⟨(p0_2).toArray⟩] 23)) := ((Below.refl w.heap.size w)).alloc (by simp) (.cells #[.int .i64 (p0_0), .int .i64 (p0_1), .string ⟨(p0_2).toArray⟩] 23)
  have hz0' : w.heap.size < (w.alloc (.cells #[.int .i64 (p0_0), .int .i64 (p0_1), .string ⟨(p0_2).toArray⟩] 23)).heap.size := by simp
  have HX0 : Hid ((w.alloc (.cells #[.int .i64 (p0_0), .int .i64 (p0_1), .string ⟨(p0_2).toArray⟩] 23)).cell? ⟨w.heap.size, 0, none⟩ = some (.int .i64 (p0_0)) ∧ (w.alloc (.cells #[.int .i64 (p0_0), .int .i64 (p0_1), .string ⟨(p0_2).toArray⟩] 23)).cell? ⟨w.heap.size, 1, none⟩ = some (.int .i64 (p0_1)) ∧ (w.alloc (.cells #[.int .i64 (p0_0), .int .i64 (p0_1), .string ⟨(p0_2).toArray⟩] 23)).cell? ⟨w.heap.size, 2, none⟩ = some (.string ⟨(p0_2).toArray⟩)) := Lib.hid ⟨by rw [World.cell?_alloc_new]; rfl, by rw [World.cell?_alloc_new]; rfl, by rw [World.cell?_alloc_new]; rfl⟩
  have HB := Lib.hid HB0'
  have hszw := HB.out.size
  clear HB0'
  go_enter Try.func3, Try.ntmps3
  have HX0o := HX0.out
  obtain ⟨hx0_0, hx0_1, hx0_2⟩ := HX0o
  go_wp2_with (fail)
  go_at_call 11
  refine (Pur.size_two p0_0 p0_1 p0_2 _ _ HW0.out (by decide) (by decide)).mono ?_
  rintro e x1 ⟨z_0, rfl, hz0, b1⟩
  have hs1 := b1.size
  clear hx0_0 hx0_1 hx0_2
  have HX0 := Lib.hid (And.intro ((b1.cell (p := ⟨w.heap.size, 0, none⟩) (Rec.lt_of_cell (HX0.out.1))).trans (HX0.out.1)) (And.intro ((b1.cell (p := ⟨w.heap.size, 1, none⟩) (Rec.lt_of_cell (HX0.out.2.1))).trans (HX0.out.2.1)) ((b1.cell (p := ⟨w.heap.size, 2, none⟩) (Rec.lt_of_cell (HX0.out.2.2))).trans (HX0.out.2.2))))
  have HB := Lib.hid (Base.then_below HB.out b1)
  clear b1
  rcases hz0 with hz0 | ⟨hz0, ht0⟩
  · go_wp2
    go_ret
    exact ⟨rfl, HB.out⟩
  have hzn0 : ¬ z_0 < 0 := by omega
  have HZ0 : Hid (z_0 + (((p0_2.length) : Nat) : Int) = 1048576) := Lib.hid (by omega)
  clear ht0
  have HL0_2 : Hid (p0_2.length ≤ 1048576) := Lib.hid (by have := HZ0.out; omega)
  obtain ⟨r, hr⟩ : ∃ z, z = Pur.okp (p0_0, p0_1, p0_2) := ⟨_, rfl⟩
  have HGr := Lib.hid hr
  clear hr
  have HX0o := HX0.out
  obtain ⟨hx0_0, hx0_1, hx0_2⟩ := HX0o
  go_wp2_with (fail)
  go_at_call 13
  refine (Pur.copy_two p0_0 p0_1 p0_2 _).mono ?_
  rintro e x2 ⟨rfl, b2⟩
  have hs2 := b2.size
  clear hx0_0 hx0_1 hx0_2
  have HX0 := Lib.hid (And.intro ((b2.cell (p := ⟨w.heap.size, 0, none⟩) (Rec.lt_of_cell (HX0.out.1))).trans (HX0.out.1)) (And.intro ((b2.cell (p := ⟨w.heap.size, 1, none⟩) (Rec.lt_of_cell (HX0.out.2.1))).trans (HX0.out.2.1)) ((b2.cell (p := ⟨w.heap.size, 2, none⟩) (Rec.lt_of_cell (HX0.out.2.2))).trans (HX0.out.2.2))))
  have HB := Lib.hid (Base.then_below HB.out b2)
  clear b2
  go_wp2_with (fail)
  go_at_call 12
  refine (Pur.spec_isp p0_0 p0_1 p0_2 _ HL0_2.out).mono ?_
  rintro e x3 ⟨he, b3⟩
  rw [← HGr.out] at he
  subst he
  have hs3 := b3.size
  have HX0 := Lib.hid (And.intro ((b3.cell (p := ⟨w.heap.size, 0, none⟩) (Rec.lt_of_cell (HX0.out.1))).trans (HX0.out.1)) (And.intro ((b3.cell (p := ⟨w.heap.size, 1, none⟩) (Rec.lt_of_cell (HX0.out.2.1))).trans (HX0.out.2.1)) ((b3.cell (p := ⟨w.heap.size, 2, none⟩) (Rec.lt_of_cell (HX0.out.2.2))).trans (HX0.out.2.2))))
  have HB := Lib.hid (Base.then_below HB.out b3)
  clear b3
  have HX0o := HX0.out
  obtain ⟨hx0_0, hx0_1, hx0_2⟩ := HX0o
  go_wp2_with (fail)
  go_at_call 13
  refine (Pur.copy_two p0_0 p0_1 p0_2 _).mono ?_
  rintro e x4 ⟨rfl, b4⟩
  have hs4 := b4.size
  clear hx0_0 hx0_1 hx0_2
  have HX0 := Lib.hid (And.intro ((b4.cell (p := ⟨w.heap.size, 0, none⟩) (Rec.lt_of_cell (HX0.out.1))).trans (HX0.out.1)) (And.intro ((b4.cell (p := ⟨w.heap.size, 1, none⟩) (Rec.lt_of_cell (HX0.out.2.1))).trans (HX0.out.2.1)) ((b4.cell (p := ⟨w.heap.size, 2, none⟩) (Rec.lt_of_cell (HX0.out.2.2))).trans (HX0.out.2.2))))
  have HB := Lib.hid (Base.then_below HB.out b4)
  clear b4
  go_wp2_with (fail)
  go_at_call 14
  refine (Pur.impl_isp p0_0 p0_1 p0_2 _ HL0_2.out).mono ?_
  rintro e x5 ⟨he, b5⟩
  rw [← HGr.out] at he
  subst he
  have hs5 := b5.size
  have HX0 := Lib.hid (And.intro ((b5.cell (p := ⟨w.heap.size, 0, none⟩) (Rec.lt_of_cell (HX0.out.1))).trans (HX0.out.1)) (And.intro ((b5.cell (p := ⟨w.heap.size, 1, none⟩) (Rec.lt_of_cell (HX0.out.2.1))).trans (HX0.out.2.1)) ((b5.cell (p := ⟨w.heap.size, 2, none⟩) (Rec.lt_of_cell (HX0.out.2.2))).trans (HX0.out.2.2))))
  have HB := Lib.hid (Base.then_below HB.out b5)
  clear b5
  go_wp2
  go_ret
  exact ⟨rfl, HB.out⟩

set_option maxRecDepth 100000 in
theorem lifted (os : Os) (started : os.Started) (H : Type) (enc : TypeId × Value → H) :
    ReturnsInHanded {} Try.checked os 3 .any (Rows.fnExactIsPurgeSpec.pre6 enc Try.prog Try.f3 Rows.fnExactIsPurgeRow.domain false) (Rows.fnExactIsPurgeSpec.post enc Try.prog Try.f3 false true false false) := by
  refine returnsInHanded_of_change (C := Try.checked) own started (by kernel_rfl) Try.func3
    (ChangeSpec.witness6 (enc := enc) (C := Try.checked) false ⟨#[], #[.agg #[.int .i64 0, .int .i64 0, .string ⟨#[]⟩]], []⟩ 8 (by kernel_rfl) (by kernel_rfl) (by kernel_rfl) (by kernel_rfl)) ?_
  intro W base args ds gs before hval0 hW hcnd _
  have hval : ∀ (j : Nat) t v, Try.f3.params[j]? = some t → args[j]? = some v → Value.okWide Try.prog W .any base t v := hval0
  have hW' := hW
  obtain ⟨p, q, hA0, hV, rfl, hfz, hnd⟩ := hW
  have hA : DataW.TrodAll enc Try.prog W 0 (fun _ => true) true Try.f3.params.toList args.toList ds p := hA0
  rw [Try.params3] at hA hval
  obtain ⟨v0, vs0, d0, ds0, p0, q0, hargs, rfl, rfl, h0, r0⟩ := trodAll_cons hA
  obtain ⟨rfl, rfl, rfl⟩ := trodAll_nil r0
  obtain rfl : args = #[v0] := by cases args; simp_all
  obtain ⟨rfl, rfl⟩ := trodVars_none hV
  have k0 := h0
  obtain ⟨a0, rfl, w0⟩ := Pur.open_val (hval 0 23 v0 rfl rfl) h0
  clear hA0 hval0
  simp only [List.append_nil] at hW'
  refine (walk a0 w0 W ).mono fun e W' ⟨he, hb⟩ => ?_
  subst he
  exact ⟨_, rfl, ⟨_, _, _, [], _, [], hW', (trodAll_cons_mk (shut_bool Try.underlying4 _) trodAll_mk0), (trodAll_cons_mk (Below.trod laidOut (by kernel_rfl) (of_decide_eq_true (by kernel_rfl)) k0 hb (fun x hx => hW'.lt x (by simp [hx]))) trodAll_mk0), rfl, hb.frame _, fun h => by cases h⟩⟩

theorem over : Rows.fnExactIsPurgeRow.holds Try.pinned (OpenSpec.ofChange Rows.fnExactIsPurgeSpec) :=
  OpenClaim.holds_of_wide 3 Try.f3 rfl rfl rfl rfl rfl rfl rfl ⟨rfl, rfl, rfl, rfl, rfl⟩ rfl rfl rfl rfl rfl (by kernel_rfl) Try.func3 (by kernel_rfl)
    (of_decide_eq_true (by kernel_rfl)) (by unfold Func.isWrapper; first | (rw [if_pos (by decide +kernel)]; kernel_rfl) | (rw [if_neg (by decide +kernel)]; exact ⟨rfl, rfl⟩))
    (fun os started H enc _ => lifted os started H enc)

/-- The given statement. -/
theorem proved : Rows.FnExactIsPurgeSaid :=
  over
#print axioms proved
end Go.Proofs.Ytfgpphbfampjjaa.fnExactIsPurge
