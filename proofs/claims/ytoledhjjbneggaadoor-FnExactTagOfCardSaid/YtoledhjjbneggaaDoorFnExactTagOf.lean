/-
  PROVED: at any number and any two texts the program's TagOf returns what its model returns: the exact law of TagOf returns true and leaves its arguments as they were. CONDITION: the library's table of powers of ten that the row lists reads as the library's text lays it, the other listed variables as pinned (the card ties them to the text of the pruned project).
-/
import Derived.Test.YtoledhjjbneggaaDoorBase
import Derived.Carry
import Derived.Test.YtoledhjjbneggaaDoorTgs
import Derived.Test.YtoledhjjbneggaaDoorTgsArg
import Derived.Test.YtoledhjjbneggaaDoorTgsCp
import Derived.Test.YtoledhjjbneggaaDoorTagOf
import Derived.Test.YtoledhjjbneggaaDoorLaidTens
import Derived.Test.YtoledhjjbneggaaDoorTie
import Derived.Test.YtoledhjjbneggaaDoorCards
import Derived.LaidMore
import Derived.Lay
import Derived.OpenVars
import Derived.Stop.LaidErr
namespace Go.Proofs.YtoledhjjbneggaaDoor.fnExactTagOf
open Go.ChangeShapes Go.WideShapes Go.ChangeAt Go.RowKit
set_option linter.unusedVariables false

theorem own : ownKnob Tryd.prog.godebug = none := by kernel_rfl

set_option maxHeartbeats 4000000 in
theorem walk (a0 : Int) (a1 : ByteArray) (a2 : ByteArray) (w0 : (Lit.int .i64 a0).wf = true) (w1 : a1.size ≤ maxLen) (w2 : a2.size ≤ maxLen) (w : World)  (ht : Fmt.Tens w) :
    Calls Tryd.prog 3 #[.int .i64 a0, .string a1, .string a2] w fun e w' => e = .returned (.bool true) ∧ Below w.heap.size w w' := by
  obtain ⟨n1, rfl⟩ : ∃ n : List UInt8, a1 = ⟨n.toArray⟩ := ⟨a1.data.toList, rfl⟩
  have hsz1 : (⟨n1.toArray⟩ : ByteArray).size = n1.length := by simp [ByteArray.size]
  have hnl1 : n1.length ≤ 9223372036854775807 := by rw [hsz1] at w1; exact w1
  clear w1
  obtain ⟨n2, rfl⟩ : ∃ n : List UInt8, a2 = ⟨n.toArray⟩ := ⟨a2.data.toList, rfl⟩
  have hsz2 : (⟨n2.toArray⟩ : ByteArray).size = n2.length := by simp [ByteArray.size]
  have hnl2 : n2.length ≤ 9223372036854775807 := by rw [hsz2] at w2; exact w2
  clear w2
  by_cases hbig1 : n1.length ≤ 1048576
  case neg =>
    go_enter Tryd.func3, Tryd.ntmps3
    go_wp2
    go_ret
    exact ⟨rfl, by first | exact Below.refl _ _ | exact (Below.refl _ _).alloc (Nat.le_refl _) _⟩
  by_cases hbig2 : n2.length ≤ 1048576
  case neg =>
    go_enter Tryd.func3, Tryd.ntmps3
    go_wp2
    go_ret
    exact ⟨rfl, by first | exact Below.refl _ _ | exact (Below.refl _ _).alloc (Nat.le_refl _) _⟩
  have HTN := Lib.hid ht
  clear ht
  have HB := Lib.hid (Below.refl w.heap.size w)
  go_enter Tryd.func3, Tryd.ntmps3
  obtain ⟨r1, hr1⟩ : ∃ z, z = Tgo.tgt a0 n1 n2 := ⟨_, rfl⟩
  have HGr1 := Lib.hid hr1
  clear hr1
  go_wp2_with (fail)
  go_at_call 6
  refine (Tgo.spec_tagof a0 n1 n2 _ w0 hbig1 hbig2).mono ?_
  rintro e x1 ⟨he, b1⟩
  rw [← HGr1.out] at he
  subst he
  have hs1 := b1.size
  have HB := Lib.hid (Base.then_below HB.out b1)
  clear b1
  have hsa2 : (x1.alloc (.cells #[.bool (false), .string ⟨(r1).toArray⟩] 23)).heap.size = x1.heap.size + 1 := by simp
  have HB := Lib.hid (HB.out.alloc HB.out.size (.cells #[.bool (false), .string ⟨(r1).toArray⟩] 23))
  have HWX : Hid ((x1.alloc (.cells #[.bool (false), .string ⟨(r1).toArray⟩] 23)).cell? ⟨x1.heap.size, 0, none⟩ = some (.bool (false)) ∧ (x1.alloc (.cells #[.bool (false), .string ⟨(r1).toArray⟩] 23)).cell? ⟨x1.heap.size, 1, none⟩ = some (.string ⟨(r1).toArray⟩)) := Lib.hid ⟨by rw [World.cell?_alloc_new]; rfl, by rw [World.cell?_alloc_new]; rfl⟩
  go_wp2_with (fail)
  go_at_call 7
  refine (Tgo.impl_tagof a0 n1 n2 _ w0 hbig1 hbig2 (Fmt.tens_below HTN.out HB.out)).mono ?_
  rintro e x3 ⟨he, b3⟩
  rw [← HGr1.out] at he
  subst he
  have hs3 := b3.size
  have HWX := Lib.hid (And.intro ((b3.cell (p := ⟨x1.heap.size, 0, none⟩) (Rec.lt_of_cell (HWX.out.1))).trans (HWX.out.1)) ((b3.cell (p := ⟨x1.heap.size, 1, none⟩) (Rec.lt_of_cell (HWX.out.2))).trans (HWX.out.2)))
  have HB := Lib.hid (Base.then_below HB.out b3)
  clear b3
  have hsa4 : (x3.alloc (.cells #[.bool (false), .string ⟨(r1).toArray⟩] 23)).heap.size = x3.heap.size + 1 := by simp
  have HWX := Lib.hid (And.intro ((((Below.refl x3.heap.size x3).alloc (Nat.le_refl _) (.cells #[.bool (false), .string ⟨(r1).toArray⟩] 23)).cell (p := ⟨x1.heap.size, 0, none⟩) (Rec.lt_of_cell (HWX.out.1))).trans (HWX.out.1)) ((((Below.refl x3.heap.size x3).alloc (Nat.le_refl _) (.cells #[.bool (false), .string ⟨(r1).toArray⟩] 23)).cell (p := ⟨x1.heap.size, 1, none⟩) (Rec.lt_of_cell (HWX.out.2))).trans (HWX.out.2)))
  have HB := Lib.hid (HB.out.alloc HB.out.size (.cells #[.bool (false), .string ⟨(r1).toArray⟩] 23))
  have HGX : Hid ((x3.alloc (.cells #[.bool (false), .string ⟨(r1).toArray⟩] 23)).cell? ⟨x3.heap.size, 0, none⟩ = some (.bool (false)) ∧ (x3.alloc (.cells #[.bool (false), .string ⟨(r1).toArray⟩] 23)).cell? ⟨x3.heap.size, 1, none⟩ = some (.string ⟨(r1).toArray⟩)) := Lib.hid ⟨by rw [World.cell?_alloc_new]; rfl, by rw [World.cell?_alloc_new]; rfl⟩
  have HGXo := HGX.out
  obtain ⟨hgx_0, hgx_1⟩ := HGXo
  have HWXo := HWX.out
  obtain ⟨hwx_0, hwx_1⟩ := HWXo
  go_wp2_with (fail)
  go_at_call 8
  refine (Tgs.eq_one (false) (⟨r1.toArray⟩) _).mono ?_
  rintro e x5 ⟨rfl, b5⟩
  have hs5 := b5.size
  clear hgx_0 hgx_1
  clear hwx_0 hwx_1
  have HWX := Lib.hid (And.intro ((b5.cell (p := ⟨x1.heap.size, 0, none⟩) (Rec.lt_of_cell (HWX.out.1))).trans (HWX.out.1)) ((b5.cell (p := ⟨x1.heap.size, 1, none⟩) (Rec.lt_of_cell (HWX.out.2))).trans (HWX.out.2)))
  have HGX := Lib.hid (And.intro ((b5.cell (p := ⟨x3.heap.size, 0, none⟩) (Rec.lt_of_cell (HGX.out.1))).trans (HGX.out.1)) ((b5.cell (p := ⟨x3.heap.size, 1, none⟩) (Rec.lt_of_cell (HGX.out.2))).trans (HGX.out.2)))
  have HB := Lib.hid (Base.then_below HB.out b5)
  clear b5
  go_wp2
  go_ret
  exact ⟨rfl, HB.out⟩

set_option maxRecDepth 100000 in
theorem lifted (os : Os) (started : os.Started) (H : Type) (enc : TypeId × Value → H) :
    ReturnsInHanded {} Tryd.checked os 3 .any (fun w args => (Rows.fnExactTagOfSpec.pre enc Tryd.prog Tryd.f3 [] false w args ∧ laidMetH Tryd.prog Rows.fnExactTagOfRow.laid w) ∧ sizedMet enc Tryd.prog Tryd.f3 (OpenSpec.ofChange Rows.fnExactTagOfSpec) false w args)
      (Rows.fnExactTagOfSpec.post enc Tryd.prog Tryd.f3 false true false false) := by
  refine returnsInHanded_of_change_and (C := Tryd.checked) (X := fun w _ => laidMetH Tryd.prog Rows.fnExactTagOfRow.laid w) (fun _ _ _ hh h => h.of_heap hh) own started (by kernel_rfl) Tryd.func3
    (ChangeSpec.witness_shaped (enc := enc) (C := Tryd.checked) (os := os) (X := fun w _ => laidMetH Tryd.prog Rows.fnExactTagOfRow.laid w) false (World.laidAll Tryd.prog os Rows.fnExactTagOfRow.laid) #[.int .i64 0, .string ⟨#[]⟩, .string ⟨#[]⟩] 8 (World.laidAll_os _ _ _) (World.shaped_of_ZipB (by kernel_rfl) (by kernel_rfl)) (by kernel_rfl) (by kernel_rfl) (by kernel_rfl)
      (by rw [MakeChecks.laidMetH_plain _ _ _ (by kernel_rfl)]; exact laidMet_laidAll _ (by kernel_rfl) (by kernel_rfl))) ?_
  intro W base args ds gs before hval0 hW _ _ hL _
  have hval : ∀ (j : Nat) t v, Tryd.f3.params[j]? = some t → args[j]? = some v → Value.okWide Tryd.prog W .any base t v := hval0
  have hW' := hW
  obtain ⟨p, q, hA0, hV, rfl, hfz, hnd⟩ := hW
  have hA : DataW.TrodAll enc Tryd.prog W 0 (fun _ => true) true Tryd.f3.params.toList args.toList ds p := hA0
  rw [Tryd.params3] at hA hval
  obtain ⟨v0, vs0, d0, ds0, p0, q0, hargs, rfl, rfl, h0, r0⟩ := trodAll_cons hA
  obtain ⟨v1, vs1, d1, ds1, p1, q1, rfl, rfl, rfl, h1, r1⟩ := trodAll_cons r0
  obtain ⟨v2, vs2, d2, ds2, p2, q2, rfl, rfl, rfl, h2, r2⟩ := trodAll_cons r1
  obtain ⟨rfl, rfl, rfl⟩ := trodAll_nil r2
  obtain rfl : args = #[v0, v1, v2] := by cases args; simp_all
  obtain ⟨rfl, rfl⟩ := trodVars_none hV
  have k0 := h0
  obtain ⟨a0, rfl, rfl, rfl, w0⟩ := open_int Tryd.underlying3 (hval 0 3 v0 rfl rfl) h0
  have k1 := h1
  obtain ⟨a1, rfl, rfl, rfl, w1⟩ := Go.ChangeMaps.open_string Tryd.underlying9 (hval 1 9 v1 rfl rfl) h1
  have k2 := h2
  obtain ⟨a2, rfl, rfl, rfl, w2⟩ := Go.ChangeMaps.open_string Tryd.underlying9 (hval 2 9 v2 rfl rfl) h2
  clear hA0 hval0
  simp only [List.append_nil] at hW'
  have hL' : laidMet Tryd.prog Rows.fnExactTagOfRow.laid W := by rw [← MakeChecks.laidMetH_plain _ _ _ (by kernel_rfl)]; exact hL
  refine (walk a0 a1 a2 w0 w1 w2 W (Laid.tens hL' (by simp [Rows.fnExactTagOfRow]))).mono fun e W' ⟨he, hb⟩ => ?_
  subst he
  exact ⟨_, rfl, Base.post_below (pa := []) (pv := []) hW' (fun _ _ _ => (trodAll_cons_mk (shut_bool Tryd.underlying4 _) trodAll_mk0)) (fun sp _ => (trodAll_cons_mk (shut_int Tryd.underlying3 w0) (trodAll_cons_mk (Go.ChangeMaps.shut_string Tryd.underlying9 w1) (trodAll_cons_mk (Go.ChangeMaps.shut_string Tryd.underlying9 w2) trodAll_mk0)))) (fun _ _ => rfl) rfl
    hb (ok_one (by kernel_rfl) rfl (okWide_bool_mk Tryd.underlying4 _))⟩

theorem over : Rows.fnExactTagOfRow.holds Tryd.pinned (OpenSpec.ofChange Rows.fnExactTagOfSpec) :=
  OpenClaim.holds_of_wide 3 Tryd.f3 rfl rfl rfl rfl rfl rfl rfl ⟨rfl, rfl, rfl, rfl, rfl⟩ rfl rfl rfl rfl rfl (by kernel_rfl) Tryd.func3 (by kernel_rfl)
    (of_decide_eq_true (by kernel_rfl)) (by unfold Func.isWrapper; first | (rw [if_pos (by decide +kernel)]; kernel_rfl) | (rw [if_neg (by decide +kernel)]; exact ⟨rfl, rfl⟩))
    (fun os started H enc _ => lifted os started H enc)

/-- The given statement: the law's card, tied. -/
theorem proved : Rows.FnExactTagOfCardSaid :=
  Claim7.holds_tied_plain_at .later [] _ true _ _
    over (fun _ h => by cases h) (by kernel_rfl) (fun _ h => by cases h) fnExactTagOf_row_tie rfl ⟨rfl, rfl⟩ (by kernel_rfl) rfl
    (fun f fn hf hfn => by
      obtain rfl : f = 3 := Option.some.inj ((show Tryd.prog.funcNamed "loop.example/g03012/laws.FnExactTagOf" = some 3 by kernel_rfl).symm.trans hf) |>.symm
      obtain rfl : fn = Tryd.f3 := (Option.some.inj (Tryd.func3.symm.trans hfn)).symm
      exact ⟨by kernel_rfl, fun j t ht => by
        rw [Tryd.params3] at ht
        have hm : t ∈ [3, 9, 9] := by simpa using Array.mem_of_getElem? ht
        have hall : ([3, 9, 9].all fun u => !Tryd.prog.wantsStandIn u) = true := by kernel_rfl
        exact (show Tryd.prog.wantsStandIn t = false by simpa using List.all_eq_true.1 hall t hm)⟩)
    (by kernel_rfl)
#print axioms proved
end Go.Proofs.YtoledhjjbneggaaDoor.fnExactTagOf
