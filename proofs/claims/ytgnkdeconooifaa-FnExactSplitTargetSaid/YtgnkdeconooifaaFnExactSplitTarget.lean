/-
  PROVED: at any text the program's SplitTarget returns what its model returns: the exact law of SplitTarget returns true. CONDITION: none.
-/
import Derived.Test.YtgnkdeconooifaaBase
import Derived.Carry
import Derived.Test.YtgnkdeconooifaaTgtFn
namespace Go.Proofs.Ytgnkdeconooifaa.fnExactSplitTarget
open Go.ChangeShapes Go.WideShapes Go.ChangeAt Go.RowKit
set_option linter.unusedVariables false

theorem own : ownKnob Try.prog.godebug = none := by kernel_rfl

set_option maxHeartbeats 4000000 in
theorem walk (a0 : ByteArray) (w0 : a0.size ≤ maxLen) (w : World)  :
    Calls Try.prog 3 #[.string a0] w fun e w' => e = .returned (.bool true) ∧ Below w.heap.size w w' := by
  obtain ⟨n0, rfl⟩ : ∃ n : List UInt8, a0 = ⟨n.toArray⟩ := ⟨a0.data.toList, rfl⟩
  have hsz0 : (⟨n0.toArray⟩ : ByteArray).size = n0.length := by simp [ByteArray.size]
  have hnl0 : n0.length ≤ 9223372036854775807 := by rw [hsz0] at w0; exact w0
  clear w0
  by_cases hbig0 : n0.length ≤ 1048576
  case neg =>
    go_enter Try.func3, Try.ntmps3
    go_wp2
    go_ret
    exact ⟨rfl, Below.refl _ _⟩
  have HB := Lib.hid (Below.refl w.heap.size w)
  go_enter Try.func3, Try.ntmps3
  obtain ⟨r0, hr0⟩ : ∃ z, z = (Tx.cutAt 63 n0).1 := ⟨_, rfl⟩
  have HGr0 := Lib.hid hr0
  clear hr0
  obtain ⟨r1, hr1⟩ : ∃ z, z = (Tx.cutAt 63 n0).2.1 := ⟨_, rfl⟩
  have HGr1 := Lib.hid hr1
  clear hr1
  obtain ⟨r2, hr2⟩ : ∃ z, z = (Tx.cutAt 63 n0).2.2 := ⟨_, rfl⟩
  have HGr2 := Lib.hid hr2
  clear hr2
  go_wp2_with (fail)
  go_at_call 4
  refine (Tx.spec_tgt n0 _ (by omega)).mono ?_
  rintro e x1 ⟨he, b1⟩
  rw [← HGr0.out, ← HGr1.out, ← HGr2.out] at he
  subst he
  have hs1 := b1.size
  have HB := Lib.hid (Base.then_below HB.out b1)
  clear b1
  go_wp2_with (fail)
  go_at_call 5
  refine (Tx.impl_tgt n0 _ (by omega)).mono ?_
  rintro e x2 ⟨he, b2⟩
  rw [← HGr0.out, ← HGr1.out, ← HGr2.out] at he
  subst he
  have hs2 := b2.size
  have HB := Lib.hid (Base.then_below HB.out b2)
  clear b2
  go_wp2
  go_ret
  exact ⟨rfl, HB.out⟩

set_option maxRecDepth 100000 in
theorem lifted (os : Os) (started : os.Started) (H : Type) (enc : TypeId × Value → H) :
    ReturnsInHanded {} Try.checked os 3 .any (Rows.fnExactSplitTargetSpec.pre6 enc Try.prog Try.f3 Rows.fnExactSplitTargetRow.domain false) (Rows.fnExactSplitTargetSpec.post enc Try.prog Try.f3 false true false false) := by
  refine returnsInHanded_of_change (C := Try.checked) own started (by kernel_rfl) Try.func3
    (ChangeSpec.witness6 (enc := enc) (C := Try.checked) false ⟨#[], #[.string ⟨#[]⟩], []⟩ 8 (by kernel_rfl) (by kernel_rfl) (by kernel_rfl) (by kernel_rfl)) ?_
  intro W base args ds gs before hval0 hW hcnd _
  have hval : ∀ (j : Nat) t v, Try.f3.params[j]? = some t → args[j]? = some v → Value.okWide Try.prog W .any base t v := hval0
  have hW' := hW
  obtain ⟨p, q, hA0, hV, rfl, hfz, hnd⟩ := hW
  have hA : DataW.TrodAll enc Try.prog W 0 (fun _ => true) true Try.f3.params.toList args.toList ds p := hA0
  rw [Try.params3] at hA hval
  obtain ⟨v0, vs0, d0, ds0, p0, q0, hargs, rfl, rfl, h0, r0⟩ := trodAll_cons hA
  obtain ⟨rfl, rfl, rfl⟩ := trodAll_nil r0
  obtain rfl : args = #[v0] := by cases args; simp_all
  obtain ⟨rfl, rfl⟩ := trodVars_none hV
  have k0 := h0
  obtain ⟨a0, rfl, rfl, rfl, w0⟩ := Go.ChangeMaps.open_string Try.underlying9 (hval 0 9 v0 rfl rfl) h0
  clear hA0 hval0
  simp only [List.append_nil] at hW'
  refine (walk a0 w0 W).mono fun e W' ⟨he, hb⟩ => ?_
  subst he
  exact ⟨_, rfl, Base.post_below (pa := []) (pv := []) hW' (fun _ _ _ => (trodAll_cons_mk (shut_bool Try.underlying4 _) trodAll_mk0)) (fun sp _ => (trodAll_cons_mk (Go.ChangeMaps.shut_string Try.underlying9 w0) trodAll_mk0)) (fun _ _ => rfl) rfl
    hb (ok_one (by kernel_rfl) rfl (okWide_bool_mk Try.underlying4 _))⟩

theorem over : Rows.fnExactSplitTargetRow.holds Try.pinned (OpenSpec.ofChange Rows.fnExactSplitTargetSpec) :=
  OpenClaim.holds_of_wide 3 Try.f3 rfl rfl rfl rfl rfl rfl rfl ⟨rfl, rfl, rfl, rfl, rfl⟩ rfl rfl rfl rfl rfl (by kernel_rfl) Try.func3 (by kernel_rfl)
    (of_decide_eq_true (by kernel_rfl)) (by unfold Func.isWrapper; first | (rw [if_pos (by decide +kernel)]; kernel_rfl) | (rw [if_neg (by decide +kernel)]; exact ⟨rfl, rfl⟩))
    (fun os started H enc _ => lifted os started H enc)

/-- The given statement. -/
theorem proved : Rows.FnExactSplitTargetSaid :=
  over
#print axioms proved
end Go.Proofs.Ytgnkdeconooifaa.fnExactSplitTarget
