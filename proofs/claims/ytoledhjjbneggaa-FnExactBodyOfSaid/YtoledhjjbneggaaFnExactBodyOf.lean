/-
  PROVED: at any version, language and visitor the program's BodyOf returns what its model returns: the exact law of BodyOf returns true and leaves its arguments as they were. CONDITION: none.
-/
import Derived.Test.YtoledhjjbneggaaBase
import Derived.Carry
import Derived.Test.YtoledhjjbneggaaVerArg
import Derived.Test.YtoledhjjbneggaaVerCp
import Derived.Test.YtoledhjjbneggaaBdy
namespace Go.Proofs.Ytoledhjjbneggaa.fnExactBodyOf
open Go.ChangeShapes Go.WideShapes Go.ChangeAt Go.RowKit
set_option linter.unusedVariables false

theorem own : ownKnob Try.prog.godebug = none := by kernel_rfl

theorem laidOut : laidOutB Try.prog = true := by kernel_rfl

set_option maxHeartbeats 4000000 in
theorem walk (f0 : Ver.T) (a1 : ByteArray) (a2 : ByteArray) (w0 : Ver.Ok f0) (w1 : a1.size ≤ maxLen) (w2 : a2.size ≤ maxLen) (w : World)  :
    Calls Try.prog 4 #[Ver.fv f0, .string a1, .string a2] w fun e w' => e = .returned (.bool true) ∧ Below w.heap.size w w' := by
  have HW0 := Lib.hid w0
  clear w0
  obtain ⟨n1, rfl⟩ : ∃ n : List UInt8, a1 = ⟨n.toArray⟩ := ⟨a1.data.toList, rfl⟩
  have hsz1 : (⟨n1.toArray⟩ : ByteArray).size = n1.length := by simp [ByteArray.size]
  have hnl1 : n1.length ≤ 9223372036854775807 := by rw [hsz1] at w1; exact w1
  clear w1
  obtain ⟨n2, rfl⟩ : ∃ n : List UInt8, a2 = ⟨n.toArray⟩ := ⟨a2.data.toList, rfl⟩
  have hsz2 : (⟨n2.toArray⟩ : ByteArray).size = n2.length := by simp [ByteArray.size]
  have hnl2 : n2.length ≤ 9223372036854775807 := by rw [hsz2] at w2; exact w2
  clear w2
  by_cases hbig1 : n1.length ≤ 1048576
  case neg =>
    go_enter Try.func4, Try.ntmps4
    go_wp2
    go_ret
    exact ⟨rfl, by first | exact Below.refl _ _ | exact (Below.refl _ _).alloc (Nat.le_refl _) _⟩
  by_cases hbig2 : n2.length ≤ 1048576
  case neg =>
    go_enter Try.func4, Try.ntmps4
    go_wp2
    go_ret
    exact ⟨rfl, by first | exact Below.refl _ _ | exact (Below.refl _ _).alloc (Nat.le_refl _) _⟩
  obtain ⟨p0_0, p0_1, p0_2⟩ := f0
  try unfold Ver.fv
  dsimp only
  have HB0' : Below w.heap.size w (w.alloc (.cells #[.int .i64 (p0_0), .string ⟨(p0_1).toArray⟩, .bool (p0_2)] 25)) := ((Below.refl w.heap.size w)).alloc (by simp) (.cells #[.int .i64 (p0_0), .string ⟨(p0_1).toArray⟩, .bool (p0_2)] 25)
  have hz0' : w.heap.size < (w.alloc (.cells #[.int .i64 (p0_0), .string ⟨(p0_1).toArray⟩, .bool (p0_2)] 25)).heap.size := by simp
  have HX0 : Hid ((w.alloc (.cells #[.int .i64 (p0_0), .string ⟨(p0_1).toArray⟩, .bool (p0_2)] 25)).cell? ⟨w.heap.size, 0, none⟩ = some (.int .i64 (p0_0)) ∧ (w.alloc (.cells #[.int .i64 (p0_0), .string ⟨(p0_1).toArray⟩, .bool (p0_2)] 25)).cell? ⟨w.heap.size, 1, none⟩ = some (.string ⟨(p0_1).toArray⟩) ∧ (w.alloc (.cells #[.int .i64 (p0_0), .string ⟨(p0_1).toArray⟩, .bool (p0_2)] 25)).cell? ⟨w.heap.size, 2, none⟩ = some (.bool (p0_2))) := Lib.hid ⟨by rw [World.cell?_alloc_new]; rfl, by rw [World.cell?_alloc_new]; rfl, by rw [World.cell?_alloc_new]; rfl⟩
  have HB := Lib.hid HB0'
  have hszw := HB.out.size
  clear HB0'
  go_enter Try.func4, Try.ntmps4
  have HX0o := HX0.out
  obtain ⟨hx0_0, hx0_1, hx0_2⟩ := HX0o
  go_wp2_with (fail)
  go_at_call 10
  refine (Ver.size_two p0_0 p0_1 p0_2 _ _ HW0.out (by decide) (by decide)).mono ?_
  rintro e x1 ⟨z_0, rfl, hz0, b1⟩
  have hs1 := b1.size
  clear hx0_0 hx0_1 hx0_2
  have HX0 := Lib.hid (And.intro ((b1.cell (p := ⟨w.heap.size, 0, none⟩) (Rec.lt_of_cell (HX0.out.1))).trans (HX0.out.1)) (And.intro ((b1.cell (p := ⟨w.heap.size, 1, none⟩) (Rec.lt_of_cell (HX0.out.2.1))).trans (HX0.out.2.1)) ((b1.cell (p := ⟨w.heap.size, 2, none⟩) (Rec.lt_of_cell (HX0.out.2.2))).trans (HX0.out.2.2))))
  have HB := Lib.hid (Base.then_below HB.out b1)
  clear b1
  rcases hz0 with hz0 | ⟨hz0, ht0⟩
  · go_wp2
    go_ret
    exact ⟨rfl, HB.out⟩
  have hzn0 : ¬ z_0 < 0 := by omega
  have HZ0 : Hid (z_0 + (((p0_1.length) : Nat) : Int) = 1048576) := Lib.hid (by omega)
  clear ht0
  have HL0_1 : Hid (p0_1.length ≤ 1048576) := Lib.hid (by have := HZ0.out; omega)
  obtain ⟨r, hr⟩ : ∃ z, z = Ver.bod p0_1 n1 n2 := ⟨_, rfl⟩
  have HGr := Lib.hid hr
  clear hr
  have HX0o := HX0.out
  obtain ⟨hx0_0, hx0_1, hx0_2⟩ := HX0o
  go_wp2_with (fail)
  go_at_call 12
  refine (Ver.copy_two p0_0 p0_1 p0_2 _).mono ?_
  rintro e x2 ⟨rfl, b2⟩
  have hs2 := b2.size
  clear hx0_0 hx0_1 hx0_2
  have HX0 := Lib.hid (And.intro ((b2.cell (p := ⟨w.heap.size, 0, none⟩) (Rec.lt_of_cell (HX0.out.1))).trans (HX0.out.1)) (And.intro ((b2.cell (p := ⟨w.heap.size, 1, none⟩) (Rec.lt_of_cell (HX0.out.2.1))).trans (HX0.out.2.1)) ((b2.cell (p := ⟨w.heap.size, 2, none⟩) (Rec.lt_of_cell (HX0.out.2.2))).trans (HX0.out.2.2))))
  have HB := Lib.hid (Base.then_below HB.out b2)
  clear b2
  go_wp2_with (fail)
  go_at_call 11
  refine (Ver.spec_bod p0_0 p0_1 p0_2 n1 n2 _ HL0_1.out hbig1 hbig2).mono ?_
  rintro e x3 ⟨he, b3⟩
  rw [← HGr.out] at he
  subst he
  have hs3 := b3.size
  have HX0 := Lib.hid (And.intro ((b3.cell (p := ⟨w.heap.size, 0, none⟩) (Rec.lt_of_cell (HX0.out.1))).trans (HX0.out.1)) (And.intro ((b3.cell (p := ⟨w.heap.size, 1, none⟩) (Rec.lt_of_cell (HX0.out.2.1))).trans (HX0.out.2.1)) ((b3.cell (p := ⟨w.heap.size, 2, none⟩) (Rec.lt_of_cell (HX0.out.2.2))).trans (HX0.out.2.2))))
  have HB := Lib.hid (Base.then_below HB.out b3)
  clear b3
  have HX0o := HX0.out
  obtain ⟨hx0_0, hx0_1, hx0_2⟩ := HX0o
  go_wp2_with (fail)
  go_at_call 12
  refine (Ver.copy_two p0_0 p0_1 p0_2 _).mono ?_
  rintro e x4 ⟨rfl, b4⟩
  have hs4 := b4.size
  clear hx0_0 hx0_1 hx0_2
  have HX0 := Lib.hid (And.intro ((b4.cell (p := ⟨w.heap.size, 0, none⟩) (Rec.lt_of_cell (HX0.out.1))).trans (HX0.out.1)) (And.intro ((b4.cell (p := ⟨w.heap.size, 1, none⟩) (Rec.lt_of_cell (HX0.out.2.1))).trans (HX0.out.2.1)) ((b4.cell (p := ⟨w.heap.size, 2, none⟩) (Rec.lt_of_cell (HX0.out.2.2))).trans (HX0.out.2.2))))
  have HB := Lib.hid (Base.then_below HB.out b4)
  clear b4
  go_wp2_with (fail)
  go_at_call 13
  refine (Ver.impl_bod p0_0 p0_1 p0_2 n1 n2 _ HL0_1.out hbig1 hbig2).mono ?_
  rintro e x5 ⟨he, b5⟩
  rw [← HGr.out] at he
  subst he
  have hs5 := b5.size
  have HX0 := Lib.hid (And.intro ((b5.cell (p := ⟨w.heap.size, 0, none⟩) (Rec.lt_of_cell (HX0.out.1))).trans (HX0.out.1)) (And.intro ((b5.cell (p := ⟨w.heap.size, 1, none⟩) (Rec.lt_of_cell (HX0.out.2.1))).trans (HX0.out.2.1)) ((b5.cell (p := ⟨w.heap.size, 2, none⟩) (Rec.lt_of_cell (HX0.out.2.2))).trans (HX0.out.2.2))))
  have HB := Lib.hid (Base.then_below HB.out b5)
  clear b5
  go_wp2
  go_ret
  exact ⟨rfl, HB.out⟩

set_option maxRecDepth 100000 in
theorem lifted (os : Os) (started : os.Started) (H : Type) (enc : TypeId × Value → H) :
    ReturnsInHanded {} Try.checked os 4 .any (Rows.fnExactBodyOfSpec.pre6 enc Try.prog Try.f4 Rows.fnExactBodyOfRow.domain false) (Rows.fnExactBodyOfSpec.post enc Try.prog Try.f4 false true false false) := by
  refine returnsInHanded_of_change (C := Try.checked) own started (by kernel_rfl) Try.func4
    (ChangeSpec.witness6 (enc := enc) (C := Try.checked) false ⟨#[], #[.agg #[.int .i64 0, .string ⟨#[]⟩, .bool false], .string ⟨#[]⟩, .string ⟨#[]⟩], []⟩ 8 (by kernel_rfl) (by kernel_rfl) (by kernel_rfl) (by kernel_rfl)) ?_
  intro W base args ds gs before hval0 hW hcnd _
  have hval : ∀ (j : Nat) t v, Try.f4.params[j]? = some t → args[j]? = some v → Value.okWide Try.prog W .any base t v := hval0
  have hW' := hW
  obtain ⟨p, q, hA0, hV, rfl, hfz, hnd⟩ := hW
  have hA : DataW.TrodAll enc Try.prog W 0 (fun _ => true) true Try.f4.params.toList args.toList ds p := hA0
  rw [Try.params4] at hA hval
  obtain ⟨v0, vs0, d0, ds0, p0, q0, hargs, rfl, rfl, h0, r0⟩ := trodAll_cons hA
  obtain ⟨v1, vs1, d1, ds1, p1, q1, rfl, rfl, rfl, h1, r1⟩ := trodAll_cons r0
  obtain ⟨v2, vs2, d2, ds2, p2, q2, rfl, rfl, rfl, h2, r2⟩ := trodAll_cons r1
  obtain ⟨rfl, rfl, rfl⟩ := trodAll_nil r2
  obtain rfl : args = #[v0, v1, v2] := by cases args; simp_all
  obtain ⟨rfl, rfl⟩ := trodVars_none hV
  have k0 := h0
  obtain ⟨a0, rfl, w0⟩ := Ver.open_val (hval 0 25 v0 rfl rfl) h0
  have k1 := h1
  obtain ⟨a1, rfl, rfl, rfl, w1⟩ := Go.ChangeMaps.open_string Try.underlying9 (hval 1 9 v1 rfl rfl) h1
  have k2 := h2
  obtain ⟨a2, rfl, rfl, rfl, w2⟩ := Go.ChangeMaps.open_string Try.underlying9 (hval 2 9 v2 rfl rfl) h2
  clear hA0 hval0
  simp only [List.append_nil] at hW'
  refine (walk a0 a1 a2 w0 w1 w2 W ).mono fun e W' ⟨he, hb⟩ => ?_
  subst he
  exact ⟨_, rfl, ⟨_, _, _, [], _, [], hW', (trodAll_cons_mk (shut_bool Try.underlying4 _) trodAll_mk0), (trodAll_cons_mk (Below.trod laidOut (by kernel_rfl) (of_decide_eq_true (by kernel_rfl)) k0 hb (fun x hx => hW'.lt x (by simp [hx]))) (trodAll_cons_mk (Go.ChangeMaps.shut_string Try.underlying9 w1) (trodAll_cons_mk (Go.ChangeMaps.shut_string Try.underlying9 w2) trodAll_mk0))), rfl, hb.frame _, fun h => by cases h⟩⟩

theorem over : Rows.fnExactBodyOfRow.holds Try.pinned (OpenSpec.ofChange Rows.fnExactBodyOfSpec) :=
  OpenClaim.holds_of_wide 4 Try.f4 rfl rfl rfl rfl rfl rfl rfl ⟨rfl, rfl, rfl, rfl, rfl⟩ rfl rfl rfl rfl rfl (by kernel_rfl) Try.func4 (by kernel_rfl)
    (of_decide_eq_true (by kernel_rfl)) (by unfold Func.isWrapper; first | (rw [if_pos (by decide +kernel)]; kernel_rfl) | (rw [if_neg (by decide +kernel)]; exact ⟨rfl, rfl⟩))
    (fun os started H enc _ => lifted os started H enc)

/-- The given statement. -/
theorem proved : Rows.FnExactBodyOfSaid :=
  over
#print axioms proved
end Go.Proofs.Ytoledhjjbneggaa.fnExactBodyOf
