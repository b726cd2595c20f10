/-
  PROVED: at any text the program's ParseTag returns what its model returns: the exact law of ParseTag returns true. CONDITION: none.
-/
import Derived.Test.YteibanoohoipdaaBase
import Derived.Carry
import Derived.Test.YteibanoohoipdaaTgsCp
import Derived.Test.YteibanoohoipdaaTagParS
namespace Go.Proofs.Yteibanoohoipdaa.fnExactParseTag
open Go.ChangeShapes Go.WideShapes Go.ChangeAt Go.RowKit
set_option linter.unusedVariables false

theorem own : ownKnob Try.prog.godebug = none := by kernel_rfl

set_option maxHeartbeats 4000000 in
theorem walk (a0 : ByteArray) (w0 : a0.size ≤ maxLen) (w : World)  :
    Calls Try.prog 7 #[.string a0] w fun e w' => e = .returned (.bool true) ∧ Below w.heap.size w w' := by
  obtain ⟨n0, rfl⟩ : ∃ n : List UInt8, a0 = ⟨n.toArray⟩ := ⟨a0.data.toList, rfl⟩
  have hsz0 : (⟨n0.toArray⟩ : ByteArray).size = n0.length := by simp [ByteArray.size]
  have hnl0 : n0.length ≤ 9223372036854775807 := by rw [hsz0] at w0; exact w0
  clear w0
  by_cases hbig0 : n0.length ≤ 1048576
  case neg =>
    go_enter Try.func7, Try.ntmps7
    go_wp2
    go_ret
    exact ⟨rfl, Below.refl _ _⟩
  have HB := Lib.hid (Below.refl w.heap.size w)
  go_enter Try.func7, Try.ntmps7
  obtain ⟨r0, hr0⟩ : ∃ z, z = (Tgs.ptag n0).1.1 := ⟨_, rfl⟩
  have HGr0 := Lib.hid hr0
  clear hr0
  obtain ⟨r1, hr1⟩ : ∃ z, z = (Tgs.ptag n0).1.2 := ⟨_, rfl⟩
  have HGr1 := Lib.hid hr1
  clear hr1
  obtain ⟨r2, hr2⟩ : ∃ z, z = (Tgs.ptag n0).2 := ⟨_, rfl⟩
  have HGr2 := Lib.hid hr2
  clear hr2
  go_wp2_with (fail)
  go_at_call 18
  refine (Tgs.spec_ptag n0 _ (by omega)).mono ?_
  rintro e x1 ⟨he, b1⟩
  rw [← HGr0.out, ← HGr1.out, ← HGr2.out] at he
  subst he
  have hs1 := b1.size
  have HB := Lib.hid (Base.then_below HB.out b1)
  clear b1
  have HB := Lib.hid (HB.out.alloc HB.out.size (.cells #[.bool (r0), .string ⟨(r1).toArray⟩] 26))
  have HWX : Hid ((x1.alloc (.cells #[.bool (r0), .string ⟨(r1).toArray⟩] 26)).cell? ⟨x1.heap.size, 0, none⟩ = some (.bool (r0)) ∧ (x1.alloc (.cells #[.bool (r0), .string ⟨(r1).toArray⟩] 26)).cell? ⟨x1.heap.size, 1, none⟩ = some (.string ⟨(r1).toArray⟩)) := Lib.hid ⟨by rw [World.cell?_alloc_new]; rfl, by rw [World.cell?_alloc_new]; rfl⟩
  go_wp2_with (fail)
  go_at_call 19
  refine (Tgs.impl_ptag n0 _ (by omega)).mono ?_
  rintro e x2 ⟨he, b2⟩
  rw [← HGr0.out, ← HGr1.out, ← HGr2.out] at he
  subst he
  have hs2 := b2.size
  have HWX := Lib.hid (And.intro ((b2.cell (p := ⟨x1.heap.size, 0, none⟩) (Rec.lt_of_cell (HWX.out.1))).trans (HWX.out.1)) ((b2.cell (p := ⟨x1.heap.size, 1, none⟩) (Rec.lt_of_cell (HWX.out.2))).trans (HWX.out.2)))
  have HB := Lib.hid (Base.then_below HB.out b2)
  clear b2
  have HWX := Lib.hid (And.intro ((((Below.refl x2.heap.size x2).alloc (Nat.le_refl _) (.cells #[.bool (r0), .string ⟨(r1).toArray⟩] 26)).cell (p := ⟨x1.heap.size, 0, none⟩) (Rec.lt_of_cell (HWX.out.1))).trans (HWX.out.1)) ((((Below.refl x2.heap.size x2).alloc (Nat.le_refl _) (.cells #[.bool (r0), .string ⟨(r1).toArray⟩] 26)).cell (p := ⟨x1.heap.size, 1, none⟩) (Rec.lt_of_cell (HWX.out.2))).trans (HWX.out.2)))
  have HB := Lib.hid (HB.out.alloc HB.out.size (.cells #[.bool (r0), .string ⟨(r1).toArray⟩] 26))
  have HGX : Hid ((x2.alloc (.cells #[.bool (r0), .string ⟨(r1).toArray⟩] 26)).cell? ⟨x2.heap.size, 0, none⟩ = some (.bool (r0)) ∧ (x2.alloc (.cells #[.bool (r0), .string ⟨(r1).toArray⟩] 26)).cell? ⟨x2.heap.size, 1, none⟩ = some (.string ⟨(r1).toArray⟩)) := Lib.hid ⟨by rw [World.cell?_alloc_new]; rfl, by rw [World.cell?_alloc_new]; rfl⟩
  have HGXo := HGX.out
  obtain ⟨hgx_0, hgx_1⟩ := HGXo
  have HWXo := HWX.out
  obtain ⟨hwx_0, hwx_1⟩ := HWXo
  go_wp2_with (fail)
  go_at_call 20
  refine (Tgs.eq_one (r0) (⟨r1.toArray⟩) _).mono ?_
  rintro e x3 ⟨rfl, b3⟩
  have hs3 := b3.size
  clear hgx_0 hgx_1
  clear hwx_0 hwx_1
  have HWX := Lib.hid (And.intro ((b3.cell (p := ⟨x1.heap.size, 0, none⟩) (Rec.lt_of_cell (HWX.out.1))).trans (HWX.out.1)) ((b3.cell (p := ⟨x1.heap.size, 1, none⟩) (Rec.lt_of_cell (HWX.out.2))).trans (HWX.out.2)))
  have HGX := Lib.hid (And.intro ((b3.cell (p := ⟨x2.heap.size, 0, none⟩) (Rec.lt_of_cell (HGX.out.1))).trans (HGX.out.1)) ((b3.cell (p := ⟨x2.heap.size, 1, none⟩) (Rec.lt_of_cell (HGX.out.2))).trans (HGX.out.2)))
  have HB := Lib.hid (Base.then_below HB.out b3)
  clear b3
  go_wp2
  go_ret
  exact ⟨rfl, HB.out⟩

set_option maxRecDepth 100000 in
theorem lifted (os : Os) (started : os.Started) (H : Type) (enc : TypeId × Value → H) :
    ReturnsInHanded {} Try.checked os 7 .any (Rows.fnExactParseTagSpec.pre6 enc Try.prog Try.f7 Rows.fnExactParseTagRow.domain false) (Rows.fnExactParseTagSpec.post enc Try.prog Try.f7 false true false false) := by
  refine returnsInHanded_of_change (C := Try.checked) own started (by kernel_rfl) Try.func7
    (ChangeSpec.witness6 (enc := enc) (C := Try.checked) false ⟨#[], #[.string ⟨#[]⟩], []⟩ 8 (by kernel_rfl) (by kernel_rfl) (by kernel_rfl) (by kernel_rfl)) ?_
  intro W base args ds gs before hval0 hW hcnd _
  have hval : ∀ (j : Nat) t v, Try.f7.params[j]? = some t → args[j]? = some v → Value.okWide Try.prog W .any base t v := hval0
  have hW' := hW
  obtain ⟨p, q, hA0, hV, rfl, hfz, hnd⟩ := hW
  have hA : DataW.TrodAll enc Try.prog W 0 (fun _ => true) true Try.f7.params.toList args.toList ds p := hA0
  rw [Try.params7] at hA hval
  obtain ⟨v0, vs0, d0, ds0, p0, q0, hargs, rfl, rfl, h0, r0⟩ := trodAll_cons hA
  obtain ⟨rfl, rfl, rfl⟩ := trodAll_nil r0
  obtain rfl : args = #[v0] := by cases args; simp_all
  obtain ⟨rfl, rfl⟩ := trodVars_none hV
  have k0 := h0
  obtain ⟨a0, rfl, rfl, rfl, w0⟩ := Go.ChangeMaps.open_string Try.underlying9 (hval 0 9 v0 rfl rfl) h0
  clear hA0 hval0
  simp only [List.append_nil] at hW'
  refine (walk a0 w0 W).mono fun e W' ⟨he, hb⟩ => ?_
  subst he
  exact ⟨_, rfl, Base.post_below (pa := []) (pv := []) hW' (fun _ _ _ => (trodAll_cons_mk (shut_bool Try.underlying4 _) trodAll_mk0)) (fun sp _ => (trodAll_cons_mk (Go.ChangeMaps.shut_string Try.underlying9 w0) trodAll_mk0)) (fun _ _ => rfl) rfl
    hb (ok_one (by kernel_rfl) rfl (okWide_bool_mk Try.underlying4 _))⟩

theorem over : Rows.fnExactParseTagRow.holds Try.pinned (OpenSpec.ofChange Rows.fnExactParseTagSpec) :=
  OpenClaim.holds_of_wide 7 Try.f7 rfl rfl rfl rfl rfl rfl rfl ⟨rfl, rfl, rfl, rfl, rfl⟩ rfl rfl rfl rfl rfl (by kernel_rfl) Try.func7 (by kernel_rfl)
    (of_decide_eq_true (by kernel_rfl)) (by unfold Func.isWrapper; first | (rw [if_pos (by decide +kernel)]; kernel_rfl) | (rw [if_neg (by decide +kernel)]; exact ⟨rfl, rfl⟩))
    (fun os started H enc _ => lifted os started H enc)

/-- The given statement. -/
theorem proved : Rows.FnExactParseTagSaid :=
  over
#print axioms proved
end Go.Proofs.Yteibanoohoipdaa.fnExactParseTag
