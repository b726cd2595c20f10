/-
  PROVED: at any list of pieces and any span the program's ReadPieces returns what its model returns and writes into no argument: the exact law of ReadPieces returns true and leaves its arguments as they were. CONDITION: none.
-/
import Derived.Test.YtgbekomjjaogaaaBase
import Derived.Carry
import Derived.Test.YtgbekomjjaogaaaPcsArg
import Derived.Test.YtgbekomjjaogaaaPcsCp
import Derived.Test.YtgbekomjjaogaaaSpnArg
import Derived.Test.YtgbekomjjaogaaaSpnCp
import Derived.Test.YtgbekomjjaogaaaPcsRd
namespace Go.Proofs.Ytgbekomjjaogaaa.fnExactReadPieces
open Go.ChangeShapes Go.WideShapes Go.ChangeAt Go.RowKit
set_option linter.unusedVariables false

theorem own : ownKnob Try.prog.godebug = none := by kernel_rfl

theorem laidOut : laidOutB Try.prog = true := by kernel_rfl

set_option maxHeartbeats 4000000 in
theorem walk (v0 : Value) (z0 : List Pcs.T) (f1 : Spn.T) (w0 : z0.length ≤ maxLen ∧ (∀ f ∈ z0, Pcs.Ok f)) (w1 : Spn.Ok f1) (w : World) (y0 : Pcs.Holds w w.heap.size v0 z0) :
    Calls Try.prog 7 #[v0, Spn.fv f1] w fun e w' => e = .returned (.bool true) ∧ Below w.heap.size w w' := by
  have HW0 := Lib.hid w0
  have HY0 := Lib.hid y0
  clear w0 y0
  have HW1 := Lib.hid w1
  clear w1
  obtain ⟨p1_0, p1_1⟩ := f1
  try unfold Spn.fv
  dsimp only
  have HB1' : Below w.heap.size w (w.alloc (.cells #[.int .i64 (p1_0), .int .i64 (p1_1)] 24)) := ((Below.refl w.heap.size w)).alloc (by simp) (.cells #[.int .i64 (p1_0), .int .i64 (p1_1)] 24)
  have hz1' : w.heap.size < (w.alloc (.cells #[.int .i64 (p1_0), .int .i64 (p1_1)] 24)).heap.size := by simp
  have HX1 : Hid ((w.alloc (.cells #[.int .i64 (p1_0), .int .i64 (p1_1)] 24)).cell? ⟨w.heap.size, 0, none⟩ = some (.int .i64 (p1_0)) ∧ (w.alloc (.cells #[.int .i64 (p1_0), .int .i64 (p1_1)] 24)).cell? ⟨w.heap.size, 1, none⟩ = some (.int .i64 (p1_1))) := Lib.hid ⟨by rw [World.cell?_alloc_new]; rfl, by rw [World.cell?_alloc_new]; rfl⟩
  have HB := Lib.hid HB1'
  have HY0 := Lib.hid (Pcs.holds_below HY0.out (HB.out.mono (Nat.le_refl _)))
  have hszw := HB.out.size
  clear HB1'
  go_enter Try.func7, Try.ntmps7
  go_wp2_with (fail)
  go_at_call 22
  refine (Pcs.size_any _ _ z0 _ _ HY0.out HW0.out.1 HW0.out.2 (by decide) (by decide)).mono ?_
  rintro e x1 ⟨z_0, rfl, hz0, b1⟩
  have hs1 := b1.size
  have HX1 := Lib.hid (And.intro ((b1.cell (p := ⟨w.heap.size, 0, none⟩) (Rec.lt_of_cell (HX1.out.1))).trans (HX1.out.1)) ((b1.cell (p := ⟨w.heap.size, 1, none⟩) (Rec.lt_of_cell (HX1.out.2))).trans (HX1.out.2)))
  have HY0 := Lib.hid (Pcs.holds_below HY0.out (b1.mono (by omega)))
  have HB := Lib.hid (Base.then_below HB.out b1)
  clear b1
  rcases hz0 with hz0 | ⟨hz0, ht0⟩
  · go_wp2
    go_ret
    exact ⟨rfl, HB.out⟩
  have hzn0 : ¬ z_0 < 0 := by omega
  have HZ0 : Hid (z_0 + ((Pcs.total z0 : Nat) : Int) = 1048576) := Lib.hid (by omega)
  clear ht0
  have HT0 : Hid (Pcs.total z0 ≤ 1048576) := Lib.hid (by have := HZ0.out; omega)
  have HL0 : Hid (z0.length ≤ 1048576) := Lib.hid (Nat.le_trans (Pcs.len_le_total z0) HT0.out)
  obtain ⟨r0, hr0⟩ : ∃ z, z = (Pcs.readp z0 p1_0 p1_1).1 := ⟨_, rfl⟩
  have HGr0 := Lib.hid hr0
  clear hr0
  obtain ⟨r1, hr1⟩ : ∃ z, z = (Pcs.readp z0 p1_0 p1_1).2 := ⟨_, rfl⟩
  have HGr1 := Lib.hid hr1
  clear hr1
  have HX1 : Hid (x1.drew.cell? ⟨w.heap.size, 0, none⟩ = some (.int .i64 (p1_0)) ∧ x1.drew.cell? ⟨w.heap.size, 1, none⟩ = some (.int .i64 (p1_1))) := Lib.hid HX1.out
  have HY0 := Lib.hid (Pcs.holds_drew HY0.out)
  have HB := Lib.hid (Rec.below_drew HB.out)
  have hdz2 : x1.drew.heap.size = x1.heap.size := rfl
  have hq0 : x1.drew.cell? ⟨w.heap.size, 0, none⟩ = some (.int .i64 (p1_0)) := HX1.out.1
  have hq1 : x1.drew.cell? ⟨w.heap.size, 1, none⟩ = some (.int .i64 (p1_1)) := HX1.out.2
  go_wp2
  go_region_with (first | (go_at_call 24; refine (Pcs.copy _ _ _ _ HY0.out HL0.out).mono ?_; rintro e xq ⟨vA0, rfl, oq, bq⟩; clear hq0 hq1; have hqz := bq.size; have HX1 := Lib.hid (And.intro ((bq.cell (p := ⟨w.heap.size, 0, none⟩) (Rec.lt_of_cell (HX1.out.1))).trans (HX1.out.1)) ((bq.cell (p := ⟨w.heap.size, 1, none⟩) (Rec.lt_of_cell (HX1.out.2))).trans (HX1.out.2))); have HY0 := Lib.hid (Pcs.holds_below HY0.out (bq.mono (by have h9 := HB.out.size; omega))); have HB := Lib.hid (Base.then_below HB.out bq); have HA0 := Lib.hid (Pcs.own_holds oq); have hq0 := HX1.out.1; have hq1 := HX1.out.2; clear bq oq) | (go_at_call 15; refine (Spn.copy_two p1_0 p1_1 _).mono ?_; rintro e xq ⟨rfl, bq⟩; clear hq0 hq1; have hqz := bq.size; have HX1 := Lib.hid (And.intro ((bq.cell (p := ⟨w.heap.size, 0, none⟩) (Rec.lt_of_cell (HX1.out.1))).trans (HX1.out.1)) ((bq.cell (p := ⟨w.heap.size, 1, none⟩) (Rec.lt_of_cell (HX1.out.2))).trans (HX1.out.2))); have HY0 := Lib.hid (Pcs.holds_below HY0.out (bq.mono (by have h9 := HB.out.size; omega))); try (have HA0 := Lib.hid (Pcs.holds_more (Pcs.holds_below HA0.out bq) bq.size)); have HB := Lib.hid (Base.then_below HB.out bq); have hq0 := HX1.out.1; have hq1 := HX1.out.2; clear bq) | (go_at_call 30; refine (Pcs.spec_read vA0 _ z0 p1_0 p1_1 _ HA0.out (by omega) HT0.out HW0.out.2).mono ?_; rintro e xq ⟨he, bq⟩; rw [← HGr0.out, ← HGr1.out] at he; subst he; have hqz := bq.size; have HX1 := Lib.hid (And.intro ((bq.cell (p := ⟨w.heap.size, 0, none⟩) (Rec.lt_of_cell (HX1.out.1))).trans (HX1.out.1)) ((bq.cell (p := ⟨w.heap.size, 1, none⟩) (Rec.lt_of_cell (HX1.out.2))).trans (HX1.out.2))); have HY0 := Lib.hid (Pcs.holds_below HY0.out (bq.mono (by have h9 := HB.out.size; omega))); have HB := Lib.hid (Base.then_below HB.out bq); clear bq HA0 hq0 hq1))
  all_goals have hsr2 := HB.out.size
  all_goals (
    go_wp2_with (fail)
    go_at_call 24
    refine (Pcs.copy _ _ _ _ HY0.out HL0.out).mono ?_
    rintro e x3 ⟨vX0, rfl, oX0, b3⟩
    have hs3 := b3.size
    have HX1 := Lib.hid (And.intro ((b3.cell (p := ⟨w.heap.size, 0, none⟩) (Rec.lt_of_cell (HX1.out.1))).trans (HX1.out.1)) ((b3.cell (p := ⟨w.heap.size, 1, none⟩) (Rec.lt_of_cell (HX1.out.2))).trans (HX1.out.2)))
    have HY0 := Lib.hid (Pcs.holds_below HY0.out (b3.mono (by omega)))
    have HB := Lib.hid (Base.then_below HB.out b3)
    clear b3
    have HX0 := Lib.hid (Pcs.own_holds oX0)
    clear oX0
    have HX1o := HX1.out
    obtain ⟨hx1_0, hx1_1⟩ := HX1o
    go_wp2_with (fail)
    go_at_call 15
    refine (Spn.copy_two p1_0 p1_1 _).mono ?_
    rintro e x4 ⟨rfl, b4⟩
    have hs4 := b4.size
    clear hx1_0 hx1_1
    have HX1 := Lib.hid (And.intro ((b4.cell (p := ⟨w.heap.size, 0, none⟩) (Rec.lt_of_cell (HX1.out.1))).trans (HX1.out.1)) ((b4.cell (p := ⟨w.heap.size, 1, none⟩) (Rec.lt_of_cell (HX1.out.2))).trans (HX1.out.2)))
    have HY0 := Lib.hid (Pcs.holds_below HY0.out (b4.mono (by omega)))
    have HX0 := Lib.hid (Pcs.holds_below HX0.out (b4.mono (by omega)))
    have HB := Lib.hid (Base.then_below HB.out b4)
    clear b4
    go_wp2_with (fail)
    go_at_call 31
    refine (Pcs.impl_read vX0 _ z0 p1_0 p1_1 _ HX0.out (by omega) HT0.out HW0.out.2).mono ?_
    rintro e x5 ⟨he, b5⟩
    rw [← HGr0.out, ← HGr1.out] at he
    subst he
    have hs5 := b5.size
    have HX1 := Lib.hid (And.intro ((b5.cell (p := ⟨w.heap.size, 0, none⟩) (Rec.lt_of_cell (HX1.out.1))).trans (HX1.out.1)) ((b5.cell (p := ⟨w.heap.size, 1, none⟩) (Rec.lt_of_cell (HX1.out.2))).trans (HX1.out.2)))
    have HY0 := Lib.hid (Pcs.holds_below HY0.out (b5.mono (by omega)))
    have HX0 := Lib.hid (Pcs.holds_below HX0.out (b5.mono (by omega)))
    have HB := Lib.hid (Base.then_below HB.out b5)
    clear b5
    go_wp2_with (fail)
    go_at_call 24
    refine (Pcs.copy _ _ _ _ HY0.out HL0.out).mono ?_
    rintro e x6 ⟨vC0, rfl, oC0, b6⟩
    have hs6 := b6.size
    have HX1 := Lib.hid (And.intro ((b6.cell (p := ⟨w.heap.size, 0, none⟩) (Rec.lt_of_cell (HX1.out.1))).trans (HX1.out.1)) ((b6.cell (p := ⟨w.heap.size, 1, none⟩) (Rec.lt_of_cell (HX1.out.2))).trans (HX1.out.2)))
    have HY0 := Lib.hid (Pcs.holds_below HY0.out (b6.mono (by omega)))
    have HX0 := Lib.hid (Pcs.holds_below HX0.out (b6.mono (by omega)))
    have HB := Lib.hid (Base.then_below HB.out b6)
    clear b6
    have HC0 := Lib.hid (Pcs.own_holds oC0)
    clear oC0
    go_wp2_with (fail)
    go_at_call 26
    refine (Pcs.eq_same vX0 vC0 _ _ z0 _ HX0.out HC0.out HL0.out).mono ?_
    rintro e x7 ⟨rfl, b7⟩
    have hs7 := b7.size
    have HX1 := Lib.hid (And.intro ((b7.cell (p := ⟨w.heap.size, 0, none⟩) (Rec.lt_of_cell (HX1.out.1))).trans (HX1.out.1)) ((b7.cell (p := ⟨w.heap.size, 1, none⟩) (Rec.lt_of_cell (HX1.out.2))).trans (HX1.out.2)))
    have HY0 := Lib.hid (Pcs.holds_below HY0.out (b7.mono (by omega)))
    have HB := Lib.hid (Base.then_below HB.out b7)
    clear b7
    go_wp2
    go_ret
    exact ⟨rfl, HB.out⟩)

set_option maxRecDepth 100000 in
theorem lifted (os : Os) (started : os.Started) (H : Type) (enc : TypeId × Value → H) :
    ReturnsInHanded {} Try.checked os 7 .any (Rows.fnExactReadPiecesSpec.pre6 enc Try.prog Try.f7 Rows.fnExactReadPiecesRow.domain false) (Rows.fnExactReadPiecesSpec.post enc Try.prog Try.f7 false true false false) := by
  refine returnsInHanded_of_change (C := Try.checked) own started (by kernel_rfl) Try.func7
    (ChangeSpec.witness6 (enc := enc) (C := Try.checked) false ⟨#[], #[.slice none 0 0, .agg #[.int .i64 0, .int .i64 0]], []⟩ 8 (by kernel_rfl) (by kernel_rfl) (by kernel_rfl) (by kernel_rfl)) ?_
  intro W base args ds gs before hval0 hW hcnd _
  have hval : ∀ (j : Nat) t v, Try.f7.params[j]? = some t → args[j]? = some v → Value.okWide Try.prog W .any base t v := hval0
  have hW' := hW
  obtain ⟨p, q, hA0, hV, rfl, hfz, hnd⟩ := hW
  have hA : DataW.TrodAll enc Try.prog W 0 (fun _ => true) true Try.f7.params.toList args.toList ds p := hA0
  rw [Try.params7] at hA hval
  obtain ⟨v0, vs0, d0, ds0, p0, q0, hargs, rfl, rfl, h0, r0⟩ := trodAll_cons hA
  obtain ⟨v1, vs1, d1, ds1, p1, q1, rfl, rfl, rfl, h1, r1⟩ := trodAll_cons r0
  obtain ⟨rfl, rfl, rfl⟩ := trodAll_nil r1
  obtain rfl : args = #[v0, v1] := by cases args; simp_all
  obtain ⟨rfl, rfl⟩ := trodVars_none hV
  have k0 := h0
  obtain ⟨z0, y0, w01, w02⟩ := Pcs.open_arg (hval 0 36 v0 rfl rfl) h0
  have w0 := And.intro w01 w02
  have k1 := h1
  obtain ⟨a1, rfl, w1⟩ := Spn.open_val (hval 1 24 v1 rfl rfl) h1
  clear hA0 hval0
  simp only [List.append_nil] at hW'
  refine (walk v0 z0 a1 w0 w1 W y0).mono fun e W' ⟨he, hb⟩ => ?_
  subst he
  exact ⟨_, rfl, ⟨_, _, _, [], _, [], hW', (trodAll_cons_mk (shut_bool Try.underlying4 _) trodAll_mk0), (trodAll_cons_mk (Below.trod laidOut (by kernel_rfl) (of_decide_eq_true (by kernel_rfl)) k0 hb (fun x hx => hW'.lt x (by simp [hx]))) (trodAll_cons_mk (Below.trod laidOut (by kernel_rfl) (of_decide_eq_true (by kernel_rfl)) k1 hb (fun x hx => hW'.lt x (by simp [hx]))) trodAll_mk0)), rfl, hb.frame _, fun h => by cases h⟩⟩

theorem over : Rows.fnExactReadPiecesRow.holds Try.pinned (OpenSpec.ofChange Rows.fnExactReadPiecesSpec) :=
  OpenClaim.holds_of_wide 7 Try.f7 rfl rfl rfl rfl rfl rfl rfl ⟨rfl, rfl, rfl, rfl, rfl⟩ rfl rfl rfl rfl rfl (by kernel_rfl) Try.func7 (by kernel_rfl)
    (of_decide_eq_true (by kernel_rfl)) (by unfold Func.isWrapper; first | (rw [if_pos (by decide +kernel)]; kernel_rfl) | (rw [if_neg (by decide +kernel)]; exact ⟨rfl, rfl⟩))
    (fun os started H enc _ => lifted os started H enc)

/-- The given statement. -/
theorem proved : Rows.FnExactReadPiecesSaid :=
  over
#print axioms proved
end Go.Proofs.Ytgbekomjjaogaaa.fnExactReadPieces
