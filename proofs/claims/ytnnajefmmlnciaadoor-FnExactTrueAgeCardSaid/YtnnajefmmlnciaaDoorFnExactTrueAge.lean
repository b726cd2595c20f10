/-
  PROVED: at any response and any time the program's TrueAge returns what its model returns and writes into no argument: the exact law of TrueAge returns true and leaves its arguments as they were. CONDITION: the program's tables of weekdays, months and days of months and the library's table of powers of ten read as their texts lay them, the other listed variables as pinned (the card ties them to the text of the pruned project).
-/
import Derived.Test.YtnnajefmmlnciaaDoorPartA
import Derived.Carry
import Derived.Test.YtnnajefmmlnciaaDoorPartD
import Derived.Test.YtnnajefmmlnciaaDoorPartX
import Derived.Test.YtnnajefmmlnciaaDoorPartN
import Derived.Test.YtnnajefmmlnciaaDoorPartO
import Derived.Test.YtnnajefmmlnciaaDoorTie
import Derived.Test.YtnnajefmmlnciaaDoorCards
import Derived.LaidMore
import Derived.Lay
import Derived.OpenVars
import Derived.Stop.LaidErr
namespace Go.Proofs.YtnnajefmmlnciaaDoor.fnExactTrueAge
open Go.ChangeShapes Go.WideShapes Go.ChangeAt Go.RowKit
set_option linter.unusedVariables false
set_option maxRecDepth 1000000

theorem own : ownKnob Tryd.prog.godebug = none := by kernel_rfl

theorem vars_len {H : Type} {enc : TypeId × Value → H} {P : Program} {w : World} {sp : Nat → Bool} : ∀ {ns : List String} {gs : List (DataW H)} {ps : List MemPlace}, DataW.TrodVars enc P w sp ns gs ps → gs.length = ns.length
  | [], [], _, _ => rfl
  | [], _ :: _, _, h => h.elim
  | _ :: _, [], _, h => h.elim
  | _ :: ns, _ :: gs, _, ⟨_, _, _, _, _, _, _, _, _, _, h, _⟩ => congrArg Nat.succ (vars_len h)

theorem laidOut : laidOutB Tryd.prog = true := by kernel_rfl

set_option maxHeartbeats 4000000 in
theorem walk (c0 : Int) (u0 : Value) (l0 : List Msg.F) (b0 : List UInt8) (a1 : Int) (w0 : Msg.Ok_rsp c0 l0 b0) (w1 : (Lit.int .i64 a1).wf = true) (w : World) (y0 : Flds.Holds w w.heap.size u0 l0) (ht : Age.Tabs w) :
    Calls Tryd.prog 3 #[.agg #[.int .i64 c0, u0, .string ⟨b0.toArray⟩], .int .i64 a1] w fun e w' => e = .returned (.bool true) ∧ Below w.heap.size w w' := by
  have HW0 := Lib.hid w0
  have HY0 := Lib.hid y0
  clear w0 y0
  have HTB := Lib.hid ht
  clear ht
  have HB0' : Below w.heap.size w (w.alloc (.cells #[.int .i64 c0, u0, .string ⟨b0.toArray⟩] 24)) := ((Below.refl w.heap.size w)).alloc (by simp) (.cells #[.int .i64 c0, u0, .string ⟨b0.toArray⟩] 24)
  have hz0' : w.heap.size < (w.alloc (.cells #[.int .i64 c0, u0, .string ⟨b0.toArray⟩] 24)).heap.size := by simp
  have HX0 : Hid ((w.alloc (.cells #[.int .i64 c0, u0, .string ⟨b0.toArray⟩] 24)).cell? ⟨w.heap.size, 0, none⟩ = some (.int .i64 c0) ∧ (w.alloc (.cells #[.int .i64 c0, u0, .string ⟨b0.toArray⟩] 24)).cell? ⟨w.heap.size, 1, none⟩ = some (u0) ∧ (w.alloc (.cells #[.int .i64 c0, u0, .string ⟨b0.toArray⟩] 24)).cell? ⟨w.heap.size, 2, none⟩ = some (.string ⟨b0.toArray⟩)) := Lib.hid ⟨by rw [World.cell?_alloc_new]; rfl, by rw [World.cell?_alloc_new]; rfl, by rw [World.cell?_alloc_new]; rfl⟩
  have HB := Lib.hid HB0'
  have HY0 := Lib.hid (Flds.holds_below HY0.out (HB.out.mono (Nat.le_refl _)))
  have hszw := HB.out.size
  clear HB0'
  go_enter Tryd.func3, Tryd.ntmps3
  have HX0o := HX0.out
  obtain ⟨hx0_0, hx0_1, hx0_2⟩ := HX0o
  go_wp2_with (fail)
  go_at_call 4
  refine (Msg.size_rsp c0 u0 l0 b0 _ w.heap.size _ HY0.out (by omega) HW0.out (by decide) (by decide)).mono ?_
  rintro e x1 ⟨z_0, rfl, hz0, b1⟩
  have hs1 := b1.size
  clear hx0_0 hx0_1 hx0_2
  have HX0 := Lib.hid (And.intro ((b1.cell (p := ⟨w.heap.size, 0, none⟩) (Rec.lt_of_cell (HX0.out.1))).trans (HX0.out.1)) (And.intro ((b1.cell (p := ⟨w.heap.size, 1, none⟩) (Rec.lt_of_cell (HX0.out.2.1))).trans (HX0.out.2.1)) ((b1.cell (p := ⟨w.heap.size, 2, none⟩) (Rec.lt_of_cell (HX0.out.2.2))).trans (HX0.out.2.2))))
  have HY0 := Lib.hid (Flds.holds_below HY0.out (b1.mono (by omega)))
  have HB := Lib.hid (Base.then_below HB.out b1)
  clear b1
  rcases hz0 with hz0 | ⟨hz0, ht0⟩
  · go_wp2
    go_ret
    exact ⟨rfl, HB.out⟩
  have hzn0 : ¬ z_0 < 0 := by omega
  have HZ0 : Hid (z_0 + (((Flds.total l0 + b0.length) : Nat) : Int) = 1048576) := Lib.hid (by omega)
  clear ht0
  have HT0 : Hid (Flds.total l0 + b0.length ≤ 1048576) := Lib.hid (by have := HZ0.out; omega)
  have HL0 : Hid (l0.length ≤ 1048576) := Lib.hid (by have := HT0.out; unfold Flds.total at this; omega)
  obtain ⟨r, hr⟩ : ∃ z, z = Age.trua l0 a1 := ⟨_, rfl⟩
  have HGr := Lib.hid hr
  clear hr
  have HX0o := HX0.out
  obtain ⟨hx0_0, hx0_1, hx0_2⟩ := HX0o
  go_wp2_with (fail)
  go_at_call 6
  refine (Msg.copy_rsp c0 u0 l0 b0 w.heap.size _ HY0.out (by omega) HL0.out).mono ?_
  rintro e x2 ⟨vA, rfl, oA, b2⟩
  have hs2 := b2.size
  obtain ⟨aA, cpA, rfl, _⟩ := Rec.shape_at oA
  clear hx0_0 hx0_1 hx0_2
  have HX0 := Lib.hid (And.intro ((b2.cell (p := ⟨w.heap.size, 0, none⟩) (Rec.lt_of_cell (HX0.out.1))).trans (HX0.out.1)) (And.intro ((b2.cell (p := ⟨w.heap.size, 1, none⟩) (Rec.lt_of_cell (HX0.out.2.1))).trans (HX0.out.2.1)) ((b2.cell (p := ⟨w.heap.size, 2, none⟩) (Rec.lt_of_cell (HX0.out.2.2))).trans (HX0.out.2.2))))
  have HY0 := Lib.hid (Flds.holds_below HY0.out (b2.mono (by omega)))
  have HB := Lib.hid (Base.then_below HB.out b2)
  clear b2
  have HA := Lib.hid (Flds.own_holds oA)
  clear oA
  go_wp2_with (fail)
  go_at_call 5
  refine (Age.spec_trua c0 (.slice aA l0.length cpA) _ l0 b0 a1 _ HA.out (by omega) (by have := HT0.out; omega) w1).mono ?_
  rintro e x3 ⟨he, b3⟩
  rw [← HGr.out] at he
  subst he
  have hs3 := b3.size
  have HX0 := Lib.hid (And.intro ((b3.cell (p := ⟨w.heap.size, 0, none⟩) (Rec.lt_of_cell (HX0.out.1))).trans (HX0.out.1)) (And.intro ((b3.cell (p := ⟨w.heap.size, 1, none⟩) (Rec.lt_of_cell (HX0.out.2.1))).trans (HX0.out.2.1)) ((b3.cell (p := ⟨w.heap.size, 2, none⟩) (Rec.lt_of_cell (HX0.out.2.2))).trans (HX0.out.2.2))))
  have HY0 := Lib.hid (Flds.holds_below HY0.out (b3.mono (by omega)))
  have HB := Lib.hid (Base.then_below HB.out b3)
  clear b3
  have HX0o := HX0.out
  obtain ⟨hx0_0, hx0_1, hx0_2⟩ := HX0o
  go_wp2_with (fail)
  go_at_call 6
  refine (Msg.copy_rsp c0 u0 l0 b0 w.heap.size _ HY0.out (by omega) HL0.out).mono ?_
  rintro e x4 ⟨vX, rfl, oX, b4⟩
  have hs4 := b4.size
  obtain ⟨aX, cpX, rfl, _⟩ := Rec.shape_at oX
  clear hx0_0 hx0_1 hx0_2
  have HX0 := Lib.hid (And.intro ((b4.cell (p := ⟨w.heap.size, 0, none⟩) (Rec.lt_of_cell (HX0.out.1))).trans (HX0.out.1)) (And.intro ((b4.cell (p := ⟨w.heap.size, 1, none⟩) (Rec.lt_of_cell (HX0.out.2.1))).trans (HX0.out.2.1)) ((b4.cell (p := ⟨w.heap.size, 2, none⟩) (Rec.lt_of_cell (HX0.out.2.2))).trans (HX0.out.2.2))))
  have HY0 := Lib.hid (Flds.holds_below HY0.out (b4.mono (by omega)))
  have HB := Lib.hid (Base.then_below HB.out b4)
  clear b4
  have HX := Lib.hid (Flds.own_holds oX)
  clear oX
  have hsa5 : (x4.alloc (.cells #[.int .i64 c0, (.slice aX l0.length cpX), .string ⟨b0.toArray⟩] 29)).heap.size = x4.heap.size + 1 := by simp
  have HX0 := Lib.hid (And.intro ((((Below.refl x4.heap.size x4).alloc (Nat.le_refl _) (.cells #[.int .i64 c0, (.slice aX l0.length cpX), .string ⟨b0.toArray⟩] 29)).cell (p := ⟨w.heap.size, 0, none⟩) (Rec.lt_of_cell (HX0.out.1))).trans (HX0.out.1)) (And.intro ((((Below.refl x4.heap.size x4).alloc (Nat.le_refl _) (.cells #[.int .i64 c0, (.slice aX l0.length cpX), .string ⟨b0.toArray⟩] 29)).cell (p := ⟨w.heap.size, 1, none⟩) (Rec.lt_of_cell (HX0.out.2.1))).trans (HX0.out.2.1)) ((((Below.refl x4.heap.size x4).alloc (Nat.le_refl _) (.cells #[.int .i64 c0, (.slice aX l0.length cpX), .string ⟨b0.toArray⟩] 29)).cell (p := ⟨w.heap.size, 2, none⟩) (Rec.lt_of_cell (HX0.out.2.2))).trans (HX0.out.2.2))))
  have HY0 := Lib.hid (Flds.holds_below HY0.out (((Below.refl x4.heap.size x4).alloc (Nat.le_refl _) (.cells #[.int .i64 c0, (.slice aX l0.length cpX), .string ⟨b0.toArray⟩] 29)).mono (by omega)))
  have HX := Lib.hid (Flds.holds_below HX.out (((Below.refl x4.heap.size x4).alloc (Nat.le_refl _) (.cells #[.int .i64 c0, (.slice aX l0.length cpX), .string ⟨b0.toArray⟩] 29)).mono (by omega)))
  have HB := Lib.hid (HB.out.alloc HB.out.size (.cells #[.int .i64 c0, (.slice aX l0.length cpX), .string ⟨b0.toArray⟩] 29))
  have HZX : Hid ((x4.alloc (.cells #[.int .i64 c0, (.slice aX l0.length cpX), .string ⟨b0.toArray⟩] 29)).cell? ⟨x4.heap.size, 0, none⟩ = some (.int .i64 c0) ∧ (x4.alloc (.cells #[.int .i64 c0, (.slice aX l0.length cpX), .string ⟨b0.toArray⟩] 29)).cell? ⟨x4.heap.size, 1, none⟩ = some ((.slice aX l0.length cpX)) ∧ (x4.alloc (.cells #[.int .i64 c0, (.slice aX l0.length cpX), .string ⟨b0.toArray⟩] 29)).cell? ⟨x4.heap.size, 2, none⟩ = some (.string ⟨b0.toArray⟩)) := Lib.hid ⟨by rw [World.cell?_alloc_new]; rfl, by rw [World.cell?_alloc_new]; rfl, by rw [World.cell?_alloc_new]; rfl⟩
  have HZXo := HZX.out
  obtain ⟨hzx_0, hzx_1, hzx_2⟩ := HZXo
  go_wp2_with (fail)
  go_at_call 7
  refine (Age.impl_trua c0 (.slice aX l0.length cpX) _ l0 b0 a1 _ HX.out (by omega) (by have := HT0.out; omega) w1 (Age.tabs_below HTB.out HB.out)).mono ?_
  rintro e x6 ⟨he, b6⟩
  rw [← HGr.out] at he
  subst he
  have hs6 := b6.size
  clear hzx_0 hzx_1 hzx_2
  have HX0 := Lib.hid (And.intro ((b6.cell (p := ⟨w.heap.size, 0, none⟩) (Rec.lt_of_cell (HX0.out.1))).trans (HX0.out.1)) (And.intro ((b6.cell (p := ⟨w.heap.size, 1, none⟩) (Rec.lt_of_cell (HX0.out.2.1))).trans (HX0.out.2.1)) ((b6.cell (p := ⟨w.heap.size, 2, none⟩) (Rec.lt_of_cell (HX0.out.2.2))).trans (HX0.out.2.2))))
  have HY0 := Lib.hid (Flds.holds_below HY0.out (b6.mono (by omega)))
  have HX := Lib.hid (Flds.holds_below HX.out (b6.mono (by omega)))
  have HZX := Lib.hid (And.intro ((b6.cell (p := ⟨x4.heap.size, 0, none⟩) (Rec.lt_of_cell (HZX.out.1))).trans (HZX.out.1)) (And.intro ((b6.cell (p := ⟨x4.heap.size, 1, none⟩) (Rec.lt_of_cell (HZX.out.2.1))).trans (HZX.out.2.1)) ((b6.cell (p := ⟨x4.heap.size, 2, none⟩) (Rec.lt_of_cell (HZX.out.2.2))).trans (HZX.out.2.2))))
  have HB := Lib.hid (Base.then_below HB.out b6)
  clear b6
  have HX0 : Hid (x6.drew.cell? ⟨w.heap.size, 0, none⟩ = some (.int .i64 c0) ∧ x6.drew.cell? ⟨w.heap.size, 1, none⟩ = some (u0) ∧ x6.drew.cell? ⟨w.heap.size, 2, none⟩ = some (.string ⟨b0.toArray⟩)) := Lib.hid HX0.out
  have HZX : Hid (x6.drew.cell? ⟨x4.heap.size, 0, none⟩ = some (.int .i64 c0) ∧ x6.drew.cell? ⟨x4.heap.size, 1, none⟩ = some ((.slice aX l0.length cpX)) ∧ x6.drew.cell? ⟨x4.heap.size, 2, none⟩ = some (.string ⟨b0.toArray⟩)) := Lib.hid HZX.out
  have HY0 : Hid (Flds.Holds x6.drew w.heap.size u0 l0) := Lib.hid HY0.out
  have HX : Hid (Flds.Holds x6.drew _ (.slice aX l0.length cpX) l0) := Lib.hid HX.out
  have HB := Lib.hid (Rec.below_drew HB.out)
  have hdz7 : x6.drew.heap.size = x6.heap.size := rfl
  have qhx0_0 := HX0.out.1
  have qhx0_1 := HX0.out.2.1
  have qhx0_2 := HX0.out.2.2
  have qhzx_0 := HZX.out.1
  have qhzx_1 := HZX.out.2.1
  have qhzx_2 := HZX.out.2.2
  go_wp2
  go_region_with (first | (go_at_call 6; refine (Msg.copy_rsp c0 u0 l0 b0 w.heap.size _ HY0.out (by have h9 := HB.out.size; omega) HL0.out).mono ?_; rintro e xq ⟨vC, rfl, oC, bq⟩; clear qhx0_0 qhx0_1 qhx0_2 qhzx_0 qhzx_1 qhzx_2; have hqz := bq.size; have HX0 := Lib.hid (And.intro ((bq.cell (p := ⟨w.heap.size, 0, none⟩) (Rec.lt_of_cell (HX0.out.1))).trans (HX0.out.1)) (And.intro ((bq.cell (p := ⟨w.heap.size, 1, none⟩) (Rec.lt_of_cell (HX0.out.2.1))).trans (HX0.out.2.1)) ((bq.cell (p := ⟨w.heap.size, 2, none⟩) (Rec.lt_of_cell (HX0.out.2.2))).trans (HX0.out.2.2)))); have HZX := Lib.hid (And.intro ((bq.cell (p := ⟨x4.heap.size, 0, none⟩) (Rec.lt_of_cell (HZX.out.1))).trans (HZX.out.1)) (And.intro ((bq.cell (p := ⟨x4.heap.size, 1, none⟩) (Rec.lt_of_cell (HZX.out.2.1))).trans (HZX.out.2.1)) ((bq.cell (p := ⟨x4.heap.size, 2, none⟩) (Rec.lt_of_cell (HZX.out.2.2))).trans (HZX.out.2.2)))); have HY0 := Lib.hid (Flds.holds_below HY0.out (bq.mono (by have h9 := HB.out.size; omega))); have HX := Lib.hid (Flds.holds_below HX.out (bq.mono (by have h9 := HB.out.size; omega))); have HB := Lib.hid (Base.then_below HB.out bq); have HC := Lib.hid (Flds.own_holds oC); have qhx0_0 := HX0.out.1; have qhx0_1 := HX0.out.2.1; have qhx0_2 := HX0.out.2.2; have qhzx_0 := HZX.out.1; have qhzx_1 := HZX.out.2.1; have qhzx_2 := HZX.out.2.2; clear bq oC) | (go_at_call 8; refine (Msg.eq_rsp c0 (.slice aX l0.length cpX) l0 b0 vC _ _ _ HX.out HC.out (by have h9 := HB.out.size; omega) (by omega) HL0.out).mono ?_; rintro e xq ⟨rfl, bq⟩; have HB := Lib.hid (Base.then_below HB.out bq); clear bq HX HC qhx0_0 qhx0_1 qhx0_2 qhzx_0 qhzx_1 qhzx_2))
  all_goals go_wp2
  all_goals go_ret
  all_goals exact ⟨rfl, HB.out⟩

set_option maxRecDepth 1000000 in
theorem lifted (os : Os) (started : os.Started) (H : Type) (enc : TypeId × Value → H) :
    ReturnsInHanded {} Tryd.checked os 3 .any (fun w args => (Rows.fnExactTrueAgeSpec.pre enc Tryd.prog Tryd.f3 [] false w args ∧ laidMetH Tryd.prog Rows.fnExactTrueAgeRow.laid w) ∧ sizedMet enc Tryd.prog Tryd.f3 (OpenSpec.ofChange Rows.fnExactTrueAgeSpec) false w args)
      (Rows.fnExactTrueAgeSpec.post enc Tryd.prog Tryd.f3 false true false false) := by
  refine returnsInHanded_of_change_and (C := Tryd.checked) (X := fun w _ => laidMetH Tryd.prog Rows.fnExactTrueAgeRow.laid w) (fun _ _ _ hh h => h.of_heap hh) own started (by kernel_rfl) Tryd.func3
    (ChangeSpec.witness_shaped (enc := enc) (C := Tryd.checked) (os := os) (X := fun w _ => laidMetH Tryd.prog Rows.fnExactTrueAgeRow.laid w) false (World.laidAll Tryd.prog os Rows.fnExactTrueAgeRow.laid) #[.agg #[.int .i64 0, .slice none 0 0, .string ⟨#[]⟩], .int .i64 0] 8 (World.laidAll_os _ _ _) (World.shaped_of_ZipB (by kernel_rfl) (by kernel_rfl)) (by kernel_rfl) (by kernel_rfl) (by kernel_rfl)
      (by rw [MakeChecks.laidMetH_plain _ _ _ (by kernel_rfl)]; exact laidMet_laidAll _ (by kernel_rfl) (by kernel_rfl))) ?_
  intro W base args ds gs before hval0 hW _ _ hL _
  have hval : ∀ (j : Nat) t v, Tryd.f3.params[j]? = some t → args[j]? = some v → Value.okWide Tryd.prog W .any base t v := hval0
  have hW' := hW
  obtain ⟨p, q, hA0, hV, rfl, hfz, hnd⟩ := hW
  have hA : DataW.TrodAll enc Tryd.prog W 0 (fun _ => true) true Tryd.f3.params.toList args.toList ds p := hA0
  rw [Tryd.params3] at hA hval
  obtain ⟨v0, vs0, d0, ds0, p0, q0, hargs, rfl, rfl, h0, r0⟩ := trodAll_cons hA
  obtain ⟨v1, vs1, d1, ds1, p1, q1, rfl, rfl, rfl, h1, r1⟩ := trodAll_cons r0
  obtain ⟨rfl, rfl, rfl⟩ := trodAll_nil r1
  obtain rfl : args = #[v0, v1] := by cases args; simp_all
  have hgl := vars_len hV
  obtain ⟨g0, g1, g2, rfl⟩ : ∃ g0 g1 g2, gs = [g0, g1, g2] := match gs, hgl with | [x0, x1, x2], _ => ⟨x0, x1, x2, rfl⟩
  have k0 := h0
  obtain ⟨c0, u0, l0, b0, rfl, y0, w0⟩ := Msg.open_rsp (hval 0 24 v0 rfl rfl) h0
  have k1 := h1
  obtain ⟨a1, rfl, rfl, rfl, w1⟩ := open_int Tryd.underlying3 (hval 1 3 v1 rfl rfl) h1
  clear hA0 hval0
  simp only [List.append_nil] at hW'
  have hL' : laidMet Tryd.prog Rows.fnExactTrueAgeRow.laid W := by rw [← MakeChecks.laidMetH_plain _ _ _ (by kernel_rfl)]; exact hL
  refine (walk c0 u0 l0 b0 a1 w0 w1 W y0 ⟨Laid.mds hL' (by simp [Rows.fnExactTrueAgeRow]), Dt.laid_names hL' (by simp [Rows.fnExactTrueAgeRow]) (by simp [Rows.fnExactTrueAgeRow]), Laid.tens hL' (by simp [Rows.fnExactTrueAgeRow])⟩).mono fun e W' ⟨he, hb⟩ => ?_
  subst he
  exact ⟨_, rfl, ⟨_, _, _, [], _, _, hW', (trodAll_cons_mk (shut_bool Tryd.underlying4 _) trodAll_mk0), (trodAll_cons_mk (Below.trod laidOut (by kernel_rfl) (of_decide_eq_true (by kernel_rfl)) k0 hb (fun x hx => hW'.lt x (by simp [hx]))) (trodAll_cons_mk (shut_int Tryd.underlying3 w1) trodAll_mk0)), Below.trodVars laidOut hb (by kernel_rfl) hV, hb.frame _, fun h => by cases h⟩⟩

theorem over : Rows.fnExactTrueAgeRow.holds Tryd.pinned (OpenSpec.ofChange Rows.fnExactTrueAgeSpec) :=
  OpenClaim.holds_of_wide 3 Tryd.f3 rfl rfl rfl rfl rfl rfl rfl ⟨rfl, rfl, rfl, rfl, rfl⟩ rfl rfl rfl rfl rfl (by kernel_rfl) Tryd.func3 (by kernel_rfl)
    (of_decide_eq_true (by kernel_rfl)) (by unfold Func.isWrapper; first | (rw [if_pos (by decide +kernel)]; kernel_rfl) | (rw [if_neg (by decide +kernel)]; exact ⟨rfl, rfl⟩))
    (fun os started H enc _ => lifted os started H enc)

/-- The given statement: the law's card, tied. -/
theorem proved : Rows.FnExactTrueAgeCardSaid :=
  Claim7.holds_tied_plain_at .later [] _ true _ _
    over (fun _ h => by cases h) (by kernel_rfl) (fun _ h => by cases h) fnExactTrueAge_row_tie rfl ⟨rfl, rfl⟩ (by kernel_rfl) rfl
    (fun f fn hf hfn => by
      obtain rfl : f = 3 := Option.some.inj ((show Tryd.prog.funcNamed "loop.example/g03012/laws.FnExactTrueAge" = some 3 by kernel_rfl).symm.trans hf) |>.symm
      obtain rfl : fn = Tryd.f3 := (Option.some.inj (Tryd.func3.symm.trans hfn)).symm
      exact ⟨by kernel_rfl, fun j t ht => by
        rw [Tryd.params3] at ht
        have hm : t ∈ [24, 3] := by simpa using Array.mem_of_getElem? ht
        have hall : ([24, 3].all fun u => !Tryd.prog.wantsStandIn u) = true := by kernel_rfl
        exact (show Tryd.prog.wantsStandIn t = false by simpa using List.all_eq_true.1 hall t hm)⟩)
    (by kernel_rfl)
#print axioms proved
end Go.Proofs.YtnnajefmmlnciaaDoor.fnExactTrueAge
