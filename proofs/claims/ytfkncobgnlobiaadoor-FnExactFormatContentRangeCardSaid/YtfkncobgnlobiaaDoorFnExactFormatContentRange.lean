/-
  PROVED: at any span and any length the program's FormatContentRange returns what its model returns: the exact law of FormatContentRange returns true and leaves its arguments as they were. CONDITION: the library's table of powers of ten that the row lists reads as the library's text lays it (the card ties it to the text of the pruned project).
-/
import Derived.Test.YtfkncobgnlobiaaDoorBase
import Derived.Carry
import Derived.Test.YtfkncobgnlobiaaDoorSpnArg
import Derived.Test.YtfkncobgnlobiaaDoorSpnCp
import Derived.Test.YtfkncobgnlobiaaDoorCrFmt
import Derived.Test.YtfkncobgnlobiaaDoorLaidTens
import Derived.Test.YtfkncobgnlobiaaDoorTie
import Derived.Test.YtfkncobgnlobiaaDoorCards
import Derived.LaidMore
import Derived.Lay
import Derived.OpenVars
import Derived.Stop.LaidErr
namespace Go.Proofs.YtfkncobgnlobiaaDoor.fnExactFormatContentRange
open Go.ChangeShapes Go.WideShapes Go.ChangeAt Go.RowKit
set_option linter.unusedVariables false

theorem own : ownKnob Tryd.prog.godebug = none := by kernel_rfl

theorem laidOut : laidOutB Tryd.prog = true := by kernel_rfl

set_option maxHeartbeats 4000000 in
theorem walk (f0 : Spn.T) (a1 : Int) (w0 : Spn.Ok f0) (w1 : (Lit.int .i64 a1).wf = true) (w : World)  (ht : Fmt.Tens w) :
    Calls Tryd.prog 5 #[Spn.fv f0, .int .i64 a1] w fun e w' => e = .returned (.bool true) ∧ Below w.heap.size w w' := by
  have HW0 := Lib.hid w0
  clear w0
  have HTN := Lib.hid ht
  clear ht
  obtain ⟨p0_0, p0_1⟩ := f0
  try unfold Spn.fv
  dsimp only
  have HB0' : Below w.heap.size w (w.alloc (.cells #[.int .i64 (p0_0), .int .i64 (p0_1)] 36)) := ((Below.refl w.heap.size w)).alloc (by simp) (.cells #[.int .i64 (p0_0), .int .i64 (p0_1)] 36)
  have hz0' : w.heap.size < (w.alloc (.cells #[.int .i64 (p0_0), .int .i64 (p0_1)] 36)).heap.size := by simp
  have HX0 : Hid ((w.alloc (.cells #[.int .i64 (p0_0), .int .i64 (p0_1)] 36)).cell? ⟨w.heap.size, 0, none⟩ = some (.int .i64 (p0_0)) ∧ (w.alloc (.cells #[.int .i64 (p0_0), .int .i64 (p0_1)] 36)).cell? ⟨w.heap.size, 1, none⟩ = some (.int .i64 (p0_1))) := Lib.hid ⟨by rw [World.cell?_alloc_new]; rfl, by rw [World.cell?_alloc_new]; rfl⟩
  have HB := Lib.hid HB0'
  have hszw := HB.out.size
  clear HB0'
  go_enter Tryd.func5, Tryd.ntmps5
  obtain ⟨r, hr⟩ : ∃ z, z = Crf.crf p0_0 p0_1 a1 := ⟨_, rfl⟩
  have HGr := Lib.hid hr
  clear hr
  have HX0o := HX0.out
  obtain ⟨hx0_0, hx0_1⟩ := HX0o
  go_wp2_with (fail)
  go_at_call 20
  refine (Spn.copy_two p0_0 p0_1 _).mono ?_
  rintro e x1 ⟨rfl, b1⟩
  have hs1 := b1.size
  clear hx0_0 hx0_1
  have HX0 := Lib.hid (And.intro ((b1.cell (p := ⟨w.heap.size, 0, none⟩) (Rec.lt_of_cell (HX0.out.1))).trans (HX0.out.1)) ((b1.cell (p := ⟨w.heap.size, 1, none⟩) (Rec.lt_of_cell (HX0.out.2))).trans (HX0.out.2)))
  have HB := Lib.hid (Base.then_below HB.out b1)
  clear b1
  go_wp2_with (fail)
  go_at_call 19
  refine (Crf.spec_crf p0_0 p0_1 a1 _ HW0.out.1 HW0.out.2 (Spn.wf_range w1)).mono ?_
  rintro e x2 ⟨he, b2⟩
  rw [← HGr.out] at he
  subst he
  have hs2 := b2.size
  have HX0 := Lib.hid (And.intro ((b2.cell (p := ⟨w.heap.size, 0, none⟩) (Rec.lt_of_cell (HX0.out.1))).trans (HX0.out.1)) ((b2.cell (p := ⟨w.heap.size, 1, none⟩) (Rec.lt_of_cell (HX0.out.2))).trans (HX0.out.2)))
  have HB := Lib.hid (Base.then_below HB.out b2)
  clear b2
  have HX0o := HX0.out
  obtain ⟨hx0_0, hx0_1⟩ := HX0o
  go_wp2_with (fail)
  go_at_call 20
  refine (Spn.copy_two p0_0 p0_1 _).mono ?_
  rintro e x3 ⟨rfl, b3⟩
  have hs3 := b3.size
  clear hx0_0 hx0_1
  have HX0 := Lib.hid (And.intro ((b3.cell (p := ⟨w.heap.size, 0, none⟩) (Rec.lt_of_cell (HX0.out.1))).trans (HX0.out.1)) ((b3.cell (p := ⟨w.heap.size, 1, none⟩) (Rec.lt_of_cell (HX0.out.2))).trans (HX0.out.2)))
  have HB := Lib.hid (Base.then_below HB.out b3)
  clear b3
  go_wp2_with (fail)
  go_at_call 21
  refine (Crf.impl_crf p0_0 p0_1 a1 _ HW0.out.1 HW0.out.2 (Spn.wf_range w1) (Fmt.tens_below HTN.out HB.out)).mono ?_
  rintro e x4 ⟨he, b4⟩
  rw [← HGr.out] at he
  subst he
  have hs4 := b4.size
  have HX0 := Lib.hid (And.intro ((b4.cell (p := ⟨w.heap.size, 0, none⟩) (Rec.lt_of_cell (HX0.out.1))).trans (HX0.out.1)) ((b4.cell (p := ⟨w.heap.size, 1, none⟩) (Rec.lt_of_cell (HX0.out.2))).trans (HX0.out.2)))
  have HB := Lib.hid (Base.then_below HB.out b4)
  clear b4
  go_wp2
  go_ret
  exact ⟨rfl, HB.out⟩

set_option maxRecDepth 100000 in
theorem lifted (os : Os) (started : os.Started) (H : Type) (enc : TypeId × Value → H) :
    ReturnsInHanded {} Tryd.checked os 5 .any (fun w args => (Rows.fnExactFormatContentRangeSpec.pre enc Tryd.prog Tryd.f5 [] false w args ∧ laidMetH Tryd.prog Rows.fnExactFormatContentRangeRow.laid w) ∧ sizedMet enc Tryd.prog Tryd.f5 (OpenSpec.ofChange Rows.fnExactFormatContentRangeSpec) false w args)
      (Rows.fnExactFormatContentRangeSpec.post enc Tryd.prog Tryd.f5 false true false false) := by
  refine returnsInHanded_of_change_and (C := Tryd.checked) (X := fun w _ => laidMetH Tryd.prog Rows.fnExactFormatContentRangeRow.laid w) (fun _ _ _ hh h => h.of_heap hh) own started (by kernel_rfl) Tryd.func5
    (ChangeSpec.witness_shaped (enc := enc) (C := Tryd.checked) (os := os) (X := fun w _ => laidMetH Tryd.prog Rows.fnExactFormatContentRangeRow.laid w) false (World.doorLaid Tryd.prog 400 os) #[.agg #[.int .i64 0, .int .i64 0], .int .i64 0] 8 rfl (World.shaped_of_RefB (by kernel_rfl) (by kernel_rfl)) (by kernel_rfl) (by kernel_rfl) (by kernel_rfl)
      (by rw [MakeChecks.laidMetH_plain _ _ _ (by kernel_rfl)]; exact laidMet_of_run' 8 (by kernel_rfl) (by kernel_rfl))) ?_
  intro W base args ds gs before hval0 hW _ _ hL _
  have hval : ∀ (j : Nat) t v, Tryd.f5.params[j]? = some t → args[j]? = some v → Value.okWide Tryd.prog W .any base t v := hval0
  have hW' := hW
  obtain ⟨p, q, hA0, hV, rfl, hfz, hnd⟩ := hW
  have hA : DataW.TrodAll enc Tryd.prog W 0 (fun _ => true) true Tryd.f5.params.toList args.toList ds p := hA0
  rw [Tryd.params5] at hA hval
  obtain ⟨v0, vs0, d0, ds0, p0, q0, hargs, rfl, rfl, h0, r0⟩ := trodAll_cons hA
  obtain ⟨v1, vs1, d1, ds1, p1, q1, rfl, rfl, rfl, h1, r1⟩ := trodAll_cons r0
  obtain ⟨rfl, rfl, rfl⟩ := trodAll_nil r1
  obtain rfl : args = #[v0, v1] := by cases args; simp_all
  obtain ⟨rfl, rfl⟩ := trodVars_none hV
  have k0 := h0
  obtain ⟨a0, rfl, w0⟩ := Spn.open_val (hval 0 36 v0 rfl rfl) h0
  have k1 := h1
  obtain ⟨a1, rfl, rfl, rfl, w1⟩ := open_int Tryd.underlying3 (hval 1 3 v1 rfl rfl) h1
  clear hA0 hval0
  simp only [List.append_nil] at hW'
  have hL' : laidMet Tryd.prog Rows.fnExactFormatContentRangeRow.laid W := by rw [← MakeChecks.laidMetH_plain _ _ _ (by kernel_rfl)]; exact hL
  refine (walk a0 a1 w0 w1 W  (Laid.tens hL' (by simp [Rows.fnExactFormatContentRangeRow]))).mono fun e W' ⟨he, hb⟩ => ?_
  subst he
  exact ⟨_, rfl, ⟨_, _, _, [], _, [], hW', (trodAll_cons_mk (shut_bool Tryd.underlying4 _) trodAll_mk0), (trodAll_cons_mk (Below.trod laidOut (by kernel_rfl) (of_decide_eq_true (by kernel_rfl)) k0 hb (fun x hx => hW'.lt x (by simp [hx]))) (trodAll_cons_mk (shut_int Tryd.underlying3 w1) trodAll_mk0)), rfl, hb.frame _, fun h => by cases h⟩⟩

theorem over : Rows.fnExactFormatContentRangeRow.holds Tryd.pinned (OpenSpec.ofChange Rows.fnExactFormatContentRangeSpec) :=
  OpenClaim.holds_of_wide 5 Tryd.f5 rfl rfl rfl rfl rfl rfl rfl ⟨rfl, rfl, rfl, rfl, rfl⟩ rfl rfl rfl rfl rfl (by kernel_rfl) Tryd.func5 (by kernel_rfl)
    (of_decide_eq_true (by kernel_rfl)) (by unfold Func.isWrapper; first | (rw [if_pos (by decide +kernel)]; kernel_rfl) | (rw [if_neg (by decide +kernel)]; exact ⟨rfl, rfl⟩))
    (fun os started H enc _ => lifted os started H enc)

/-- The given statement: the law's card, tied. -/
theorem proved : Rows.FnExactFormatContentRangeCardSaid :=
  Claim7.holds_tied_plain_at .later [] _ true _ _
    over (fun _ h => by cases h) (by kernel_rfl) (fun _ h => by cases h) fnExactFormatContentRange_row_tie rfl ⟨rfl, rfl⟩ (by kernel_rfl) rfl
    (fun f fn hf hfn => by
      obtain rfl : f = 5 := Option.some.inj ((show Tryd.prog.funcNamed "loop.example/g03012/laws.FnExactFormatContentRange" = some 5 by kernel_rfl).symm.trans hf) |>.symm
      obtain rfl : fn = Tryd.f5 := (Option.some.inj (Tryd.func5.symm.trans hfn)).symm
      exact ⟨by kernel_rfl, fun j t ht => by
        rw [Tryd.params5] at ht
        have hm : t ∈ [36, 3] := by simpa using Array.mem_of_getElem? ht
        have hall : ([36, 3].all fun u => !Tryd.prog.wantsStandIn u) = true := by kernel_rfl
        exact (show Tryd.prog.wantsStandIn t = false by simpa using List.all_eq_true.1 hall t hm)⟩)
    (by kernel_rfl)
#print axioms proved
end Go.Proofs.YtfkncobgnlobiaaDoor.fnExactFormatContentRange
