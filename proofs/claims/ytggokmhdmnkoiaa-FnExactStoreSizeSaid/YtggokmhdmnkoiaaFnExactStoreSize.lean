/-
  PROVED: at every store the program's StoreSize gives what its model gives and writes into no argument: the exact law of StoreSize returns true and leaves its argument as it was. CONDITION: none.
-/
import Derived.Test.YtggokmhdmnkoiaaBase
import Derived.Carry
import Derived.Test.YtggokmhdmnkoiaaStz
import Derived.Test.YtggokmhdmnkoiaaStoCp
import Derived.RegionTactic
import Derived.Deep.RegionWith
namespace Go.Proofs.Ytggokmhdmnkoiaa.fnExactStoreSize
open Go.ChangeShapes Go.WideShapes Go.ChangeAt Go.RowKit
set_option linter.unusedVariables false
set_option maxRecDepth 1000000

theorem own : ownKnob Try.prog.godebug = none := by kernel_rfl

theorem laidOut : laidOutB Try.prog = true := by kernel_rfl

set_option maxHeartbeats 4000000 in
theorem walk (u0 : Value) (l0 : List Enl.T) (w0 : Sto.Ok l0) (w : World) (y0 : Enl.Holds w w.heap.size u0 l0) :
    Calls Try.prog 3 #[.agg #[u0]] w fun e w' => e = .returned (.bool true) ∧ Below w.heap.size w w' := by
  have HW0 := Lib.hid w0
  have HYu := Lib.hid y0
  clear w0 y0
  have HB : Hid (Below w.heap.size w (w.alloc (.cells #[u0] 24))) := Lib.hid ((Below.refl w.heap.size w).alloc (by simp) (.cells #[u0] 24))
  have hz0' : w.heap.size < (w.alloc (.cells #[u0] 24)).heap.size := by simp
  have HX0 : Hid ((w.alloc (.cells #[u0] 24)).cell? ⟨w.heap.size, 0, none⟩ = some (u0)) := Lib.hid (by rw [World.cell?_alloc_new]; rfl)
  have HYu := Lib.hid (Enl.holds_below HYu.out (HB.out.mono (Nat.le_refl _)))
  have hszw := HB.out.size
  go_enter Try.func3, Try.ntmps3
  have hx0_0 := HX0.out
  go_wp2_with (fail)
  go_at_call 7
  refine (Sto.size_sto u0 l0 _ w.heap.size _ HYu.out (by omega) HW0.out (by decide) (by decide)).mono ?_
  rintro e x1 ⟨z_0, rfl, hz0, b1⟩
  have hs1 := b1.size
  clear hx0_0
  have HYu := Lib.hid (Enl.holds_below HYu.out (b1.mono (by omega)))
  have HX0 := Lib.hid ((b1.cell (p := ⟨w.heap.size, 0, none⟩) (Rec.lt_of_cell (HX0.out))).trans (HX0.out))
  have HB := Lib.hid (Base.then_below HB.out b1)
  clear b1
  rcases hz0 with hz0 | ⟨hz0, ht0⟩
  · go_wp2
    go_ret
    exact ⟨rfl, HB.out⟩
  have hzn0 : ¬ z_0 < 0 := by omega
  have HZ0 : Hid (z_0 + ((Sto.tot l0 : Nat) : Int) = 1048576) := Lib.hid (by omega)
  clear ht0
  have HLu : Hid ((l0.length ≤ 1048576 ∧ ∀ f ∈ l0, f.els.length ≤ 1048576 ∧ f.el.length ≤ 1048576 ∧ f.eps.length ≤ 1048576)) := Lib.hid (⟨Nat.le_trans (Enl.len_le_total l0) (by have := HZ0.out; unfold Sto.tot at this; omega), fun f hf => by have h1 := Enl.mem_total hf; have h2 := HZ0.out; unfold Sto.tot at h2; unfold Enl.wt at h1; unfold Ent.tot Flds.total at h1; exact ⟨by omega, by omega, by have := Pcs.len_le_total f.eps; omega⟩⟩)
  have HTE : Hid (∀ f ∈ l0, Pcs.total f.eps ≤ 1048576) := Lib.hid (fun f hf => by have h1 := Enl.mem_total hf; have h2 := HZ0.out; unfold Sto.tot at h2; unfold Enl.wt Ent.tot at h1; omega)
  obtain ⟨r0, hr0⟩ : ∃ z, z = Sto.stz l0 := ⟨_, rfl⟩
  have HGr0 := Lib.hid hr0
  clear hr0
  have hx0_0 := HX0.out
  go_wp2_with (fail)
  go_at_call 9
  refine (Sto.copy_sto u0 l0 w.heap.size _ HYu.out (by have h9 := HB.out.size; omega) HLu.out).mono ?_
  rintro e x2 ⟨vAu, rfl, oAu, b2⟩
  have hs2 := b2.size
  obtain ⟨aAu, cAu, rfl, _⟩ := Enl.own_shape oAu
  clear hx0_0
  have HYu := Lib.hid (Enl.holds_below HYu.out (b2.mono (by omega)))
  have HX0 := Lib.hid ((b2.cell (p := ⟨w.heap.size, 0, none⟩) (Rec.lt_of_cell (HX0.out))).trans (HX0.out))
  have HB := Lib.hid (Base.then_below HB.out b2)
  clear b2
  have HAu := Lib.hid (Enl.own_holds oAu)
  clear oAu
  go_wp2_with (fail)
  go_at_call 8
  refine (Sto.spec_stz (.slice aAu (l0.length) cAu) _ l0 _ HAu.out (by have h9 := HB.out.size; omega) HLu.out.1 HTE.out).mono ?_
  rintro e x3 ⟨he, b3⟩
  rw [← HGr0.out] at he
  subst he
  have hs3 := b3.size
  have HYu := Lib.hid (Enl.holds_below HYu.out (b3.mono (by omega)))
  have HX0 := Lib.hid ((b3.cell (p := ⟨w.heap.size, 0, none⟩) (Rec.lt_of_cell (HX0.out))).trans (HX0.out))
  have HB := Lib.hid (Base.then_below HB.out b3)
  clear b3
  have hx0_0 := HX0.out
  go_wp2_with (fail)
  go_at_call 9
  refine (Sto.copy_sto u0 l0 w.heap.size _ HYu.out (by have h9 := HB.out.size; omega) HLu.out).mono ?_
  rintro e x4 ⟨vXu, rfl, oXu, b4⟩
  have hs4 := b4.size
  obtain ⟨aXu, cXu, rfl, _⟩ := Enl.own_shape oXu
  clear hx0_0
  have HYu := Lib.hid (Enl.holds_below HYu.out (b4.mono (by omega)))
  have HX0 := Lib.hid ((b4.cell (p := ⟨w.heap.size, 0, none⟩) (Rec.lt_of_cell (HX0.out))).trans (HX0.out))
  have HB := Lib.hid (Base.then_below HB.out b4)
  clear b4
  have HXu := Lib.hid (Enl.own_holds oXu)
  clear oXu
  have hsa5 : (x4.alloc (.cells #[(.slice aXu (l0.length) cXu)] 29)).heap.size = x4.heap.size + 1 := by simp
  have HYu := Lib.hid (Enl.holds_below HYu.out (((Below.refl x4.heap.size x4).alloc (Nat.le_refl _) (.cells #[(.slice aXu (l0.length) cXu)] 29)).mono (by omega)))
  have HX0 := Lib.hid ((((Below.refl x4.heap.size x4).alloc (Nat.le_refl _) (.cells #[(.slice aXu (l0.length) cXu)] 29)).cell (p := ⟨w.heap.size, 0, none⟩) (Rec.lt_of_cell (HX0.out))).trans (HX0.out))
  have HXu := Lib.hid (Enl.holds_below HXu.out (((Below.refl x4.heap.size x4).alloc (Nat.le_refl _) (.cells #[(.slice aXu (l0.length) cXu)] 29)).mono (by omega)))
  have HB := Lib.hid (HB.out.alloc HB.out.size (.cells #[(.slice aXu (l0.length) cXu)] 29))
  have HZX : Hid ((x4.alloc (.cells #[(.slice aXu (l0.length) cXu)] 29)).cell? ⟨x4.heap.size, 0, none⟩ = some ((.slice aXu (l0.length) cXu))) := Lib.hid (by rw [World.cell?_alloc_new]; rfl)
  have hzx_0 := HZX.out
  go_wp2_with (fail)
  go_at_call 10
  refine (Sto.impl_stz (.slice aXu (l0.length) cXu) _ l0 _ HXu.out (by have h9 := HB.out.size; omega) HLu.out.1 HTE.out).mono ?_
  rintro e x6 ⟨he, b6⟩
  rw [← HGr0.out] at he
  subst he
  have hs6 := b6.size
  clear hzx_0
  have HYu := Lib.hid (Enl.holds_below HYu.out (b6.mono (by omega)))
  have HX0 := Lib.hid ((b6.cell (p := ⟨w.heap.size, 0, none⟩) (Rec.lt_of_cell (HX0.out))).trans (HX0.out))
  have HXu := Lib.hid (Enl.holds_below HXu.out (b6.mono (by omega)))
  have HZX := Lib.hid ((b6.cell (p := ⟨x4.heap.size, 0, none⟩) (Rec.lt_of_cell (HZX.out))).trans (HZX.out))
  have HB := Lib.hid (Base.then_below HB.out b6)
  clear b6
  have HX0 : Hid (x6.drew.cell? ⟨w.heap.size, 0, none⟩ = some (u0)) := Lib.hid HX0.out
  have HZX : Hid (x6.drew.cell? ⟨x4.heap.size, 0, none⟩ = some ((.slice aXu (l0.length) cXu))) := Lib.hid HZX.out
  have HYu : Hid (Enl.Holds x6.drew w.heap.size u0 l0) := Lib.hid HYu.out
  have HXu : Hid (Enl.Holds x6.drew _ (.slice aXu (l0.length) cXu) l0) := Lib.hid HXu.out
  have HB := Lib.hid (Rec.below_drew HB.out)
  have hdz7 : x6.drew.heap.size = x6.heap.size := rfl
  have qhx0_0 := HX0.out
  have qhzx_0 := HZX.out
  go_wp2
  go_region_with (first | (go_at_call 9; refine (Sto.copy_sto u0 l0 w.heap.size _ HYu.out (by have h9 := HB.out.size; omega) HLu.out).mono ?_; rintro e xq ⟨vCu, rfl, oCu, bq⟩; clear qhx0_0 qhzx_0; have hqz := bq.size; have HX0 := Lib.hid ((bq.cell (p := ⟨w.heap.size, 0, none⟩) (Rec.lt_of_cell (HX0.out))).trans (HX0.out)); have HZX := Lib.hid ((bq.cell (p := ⟨x4.heap.size, 0, none⟩) (Rec.lt_of_cell (HZX.out))).trans (HZX.out)); have HYu := Lib.hid (Enl.holds_below HYu.out (bq.mono (by have h9 := HB.out.size; omega))); have HXu := Lib.hid (Enl.holds_below HXu.out (bq.mono (by have h9 := HB.out.size; omega))); have HB := Lib.hid (Base.then_below HB.out bq); have HCu := Lib.hid (Enl.own_holds oCu); have qhx0_0 := HX0.out; have qhzx_0 := HZX.out; clear bq oCu) | (go_at_call 11; refine (Sto.eq_sto (.slice aXu (l0.length) cXu) l0 vCu _ _ _ HXu.out (by have h9 := HB.out.size; omega) HCu.out (by omega) HLu.out).mono ?_; rintro e xq ⟨rfl, bq⟩; have HB := Lib.hid (Base.then_below HB.out bq); clear bq HXu HCu qhx0_0 qhzx_0))
  all_goals go_wp2
  all_goals go_ret
  all_goals exact ⟨rfl, HB.out⟩

set_option maxRecDepth 1000000 in
theorem lifted (os : Os) (started : os.Started) (H : Type) (enc : TypeId × Value → H) :
    ReturnsInHanded {} Try.checked os 3 .any (Rows.fnExactStoreSizeSpec.pre6 enc Try.prog Try.f3 Rows.fnExactStoreSizeRow.domain false) (Rows.fnExactStoreSizeSpec.post enc Try.prog Try.f3 false true false false) := by
  refine returnsInHanded_of_change (C := Try.checked) own started (by kernel_rfl) Try.func3
    (ChangeSpec.witness6 (enc := enc) (C := Try.checked) false ⟨#[], #[.agg #[.slice none 0 0]], []⟩ 8 (by kernel_rfl) (by kernel_rfl) (by kernel_rfl) (by kernel_rfl)) ?_
  intro W base args ds gs before hval0 hW hcnd _
  have hval : ∀ (j : Nat) t v, Try.f3.params[j]? = some t → args[j]? = some v → Value.okWide Try.prog W .any base t v := hval0
  have hW' := hW
  obtain ⟨p, q, hA0, hV, rfl, hfz, hnd⟩ := hW
  have hA : DataW.TrodAll enc Try.prog W 0 (fun _ => true) true Try.f3.params.toList args.toList ds p := hA0
  rw [Try.params3] at hA hval
  obtain ⟨v0, vs0, d0, ds0, p0, q0, hargs, rfl, rfl, h0, r0⟩ := trodAll_cons hA
  obtain ⟨rfl, rfl, rfl⟩ := trodAll_nil r0
  obtain rfl : args = #[v0] := by cases args; simp_all
  obtain ⟨rfl, rfl⟩ := trodVars_none hV
  have k0 := h0
  obtain ⟨u0_, l0_, rfl, y0_0, w0⟩ := Sto.open_sto (hval 0 24 v0 rfl rfl) h0
  have y0 := y0_0
  clear hA0 hval0
  simp only [List.append_nil] at hW'
  refine (walk u0_ l0_ w0 W y0).mono fun e W' ⟨he, hb⟩ => ?_
  subst he
  exact ⟨_, rfl, ⟨_, _, _, [], _, [], hW', (trodAll_cons_mk (shut_bool Try.underlying4 _) trodAll_mk0), (trodAll_cons_mk (Below.trod laidOut (by kernel_rfl) (of_decide_eq_true (by kernel_rfl)) k0 hb (fun x hx => hW'.lt x (by simp [hx]))) trodAll_mk0), rfl, hb.frame _, fun h => by cases h⟩⟩

theorem over : Rows.fnExactStoreSizeRow.holds Try.pinned (OpenSpec.ofChange Rows.fnExactStoreSizeSpec) :=
  OpenClaim.holds_of_wide 3 Try.f3 rfl rfl rfl rfl rfl rfl rfl ⟨rfl, rfl, rfl, rfl, rfl⟩ rfl rfl rfl rfl rfl (by kernel_rfl) Try.func3 (by kernel_rfl)
    (of_decide_eq_true (by kernel_rfl)) (by unfold Func.isWrapper; first | (rw [if_pos (by decide +kernel)]; kernel_rfl) | (rw [if_neg (by decide +kernel)]; exact ⟨rfl, rfl⟩))
    (fun os started H enc _ => lifted os started H enc)

/-- The given statement. -/
theorem proved : Rows.FnExactStoreSizeSaid :=
  over
#print axioms proved
end Go.Proofs.Ytggokmhdmnkoiaa.fnExactStoreSize
