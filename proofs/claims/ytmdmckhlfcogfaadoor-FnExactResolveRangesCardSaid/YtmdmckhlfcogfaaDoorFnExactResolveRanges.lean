/-
  PROVED: at any asks and any length the program's ResolveRanges returns what its model returns, in memory of its own, and writes into no argument: the exact law of ResolveRanges returns true and leaves its arguments as they were. CONDITION: the program's error errNoBytes that the row lists reads as the program's text lays it (the card ties it to the text of the pruned project).
-/
import Derived.Test.YtmdmckhlfcogfaaDoorBase
import Derived.Carry
import Derived.Test.YtmdmckhlfcogfaaDoorAsksArg
import Derived.Test.YtmdmckhlfcogfaaDoorAsksCp
import Derived.Test.YtmdmckhlfcogfaaDoorAsksMk
import Derived.Test.YtmdmckhlfcogfaaDoorSpnCp
import Derived.Test.YtmdmckhlfcogfaaDoorSpnMk
import Derived.Test.YtmdmckhlfcogfaaDoorRngRs
import Derived.Test.YtmdmckhlfcogfaaDoorRngRv
import Derived.Test.YtmdmckhlfcogfaaDoorTie
import Derived.Test.YtmdmckhlfcogfaaDoorCards
import Derived.LaidMore
import Derived.Lay
import Derived.OpenVars
import Derived.Stop.LaidErr
namespace Go.Proofs.YtmdmckhlfcogfaaDoor.fnExactResolveRanges
open Go.ChangeShapes Go.WideShapes Go.ChangeAt Go.RowKit
set_option linter.unusedVariables false

theorem own : ownKnob Tryd.prog.godebug = none := by kernel_rfl

theorem vars_len {H : Type} {enc : TypeId × Value → H} {P : Program} {w : World} {sp : Nat → Bool} : ∀ {ns : List String} {gs : List (DataW H)} {ps : List MemPlace}, DataW.TrodVars enc P w sp ns gs ps → gs.length = ns.length
  | [], [], _, _ => rfl
  | [], _ :: _, _, h => h.elim
  | _ :: _, [], _, h => h.elim
  | _ :: ns, _ :: gs, _, ⟨_, _, _, _, _, _, _, _, _, _, h, _⟩ => congrArg Nat.succ (vars_len h)

theorem laidOut : laidOutB Tryd.prog = true := by kernel_rfl

set_option maxHeartbeats 4000000 in
theorem walk (v0 : Value) (z0 : List Asks.T) (a1 : Int) (w0 : z0.length ≤ maxLen ∧ (∀ f ∈ z0, Asks.Ok f)) (w1 : (Lit.int .i64 a1).wf = true) (w : World) (y0 : Asks.Holds w w.heap.size v0 z0) (hnb : ∃ ea, Rng.NoB w ea) :
    Calls Tryd.prog 4 #[v0, .int .i64 a1] w fun e w' => e = .returned (.bool true) ∧ Below w.heap.size w w' := by
  have HW0 := Lib.hid w0
  have HY0 := Lib.hid y0
  clear w0 y0
  obtain ⟨ea, hnb⟩ := hnb
  have HNB := Lib.hid hnb
  clear hnb
  have HWN := Lib.hid (Asks.wf_range w1)
  have HB := Lib.hid (Below.refl w.heap.size w)
  go_enter Tryd.func4, Tryd.ntmps4
  go_wp2_with (fail)
  go_at_call 6
  refine (Asks.size_any _ _ z0 _ _ HY0.out HW0.out.1 HW0.out.2 (by decide) (by decide)).mono ?_
  rintro e x1 ⟨z_0, rfl, hz0, b1⟩
  have hs1 := b1.size
  have HY0 := Lib.hid (Asks.holds_below HY0.out (b1.mono (by omega)))
  have HB := Lib.hid (Base.then_below HB.out b1)
  clear b1
  rcases hz0 with hz0 | ⟨hz0, ht0⟩
  · go_wp2
    go_ret
    exact ⟨rfl, HB.out⟩
  have hzn0 : ¬ z_0 < 0 := by omega
  have HZ0 : Hid (z_0 + ((Asks.total z0 : Nat) : Int) = 1048576) := Lib.hid (by omega)
  clear ht0
  have HT0 : Hid (Asks.total z0 ≤ 1048576) := Lib.hid (by have := HZ0.out; omega)
  have HL0 : Hid (z0.length ≤ 1048576) := Lib.hid (Nat.le_trans (Asks.len_le_total z0) HT0.out)
  go_wp2_with (fail)
  go_at_call 8
  refine (Asks.copy _ _ _ _ HY0.out HL0.out).mono ?_
  rintro e x2 ⟨vA0, rfl, oA0, b2⟩
  have hs2 := b2.size
  have HY0 := Lib.hid (Asks.holds_below HY0.out (b2.mono (by omega)))
  have HB := Lib.hid (Base.then_below HB.out b2)
  clear b2
  have HA0 := Lib.hid (Asks.own_holds oA0)
  clear oA0
  have HK : Hid ((Rng.rsv z0 a1).length ≤ 1048576) := Lib.hid (by have h1 := Rng.rsv_len z0 a1; have h2 := HL0.out; omega)
  go_wp2_with (fail)
  go_at_call 11
  refine (Rng.spec_rsv vA0 _ z0 a1 _ HA0.out (by omega) HL0.out HWN.out).mono ?_
  rintro e x3 ⟨vW, rfl, oW, b3⟩
  have hs3 := b3.size
  have HY0 := Lib.hid (Asks.holds_below HY0.out (b3.mono (by omega)))
  have HB := Lib.hid (Base.then_below HB.out b3)
  clear b3
  have HWW := Lib.hid (Spn.own_holds oW)
  clear oW
  go_wp2_with (fail)
  go_at_call 8
  refine (Asks.copy _ _ _ _ HY0.out HL0.out).mono ?_
  rintro e x4 ⟨vX0, rfl, oX0, b4⟩
  have hs4 := b4.size
  have HY0 := Lib.hid (Asks.holds_below HY0.out (b4.mono (by omega)))
  have HWW := Lib.hid (Spn.holds_below HWW.out (b4.mono (by omega)))
  have HB := Lib.hid (Base.then_below HB.out b4)
  clear b4
  have HX0 := Lib.hid oX0
  clear oX0
  go_wp2_with (fail)
  go_at_call 12
  refine (Rng.impl_rsv vX0 _ z0 a1 ea _ (Asks.own_holds HX0.out) (by omega) HL0.out (Rng.nob_below HNB.out HB.out)).mono ?_
  rintro e x5 ⟨vG, rfl, oG, b5⟩
  have hs5 := b5.size
  have NG_X0 : Hid (∀ g, vG.ownBlock = some g → some g ≠ vX0.ownBlock) := Lib.hid (fun g hg hx => by have q1 := (oG.lt g hg).1; have q2 := (HX0.out.lt g hx.symm).2; omega)
  have NX0_G : Hid (∀ g, vX0.ownBlock = some g → some g ≠ vG.ownBlock) := Lib.hid (fun g hg hx => by have q1 := (oG.lt g hx.symm).1; have q2 := (HX0.out.lt g hg).2; omega)
  have HY0 := Lib.hid (Asks.holds_below HY0.out (b5.mono (by omega)))
  have HWW := Lib.hid (Spn.holds_below HWW.out (b5.mono (by omega)))
  have HX0 := Lib.hid (Asks.row_below HX0.out b5)
  have HB := Lib.hid (Base.then_below HB.out b5)
  clear b5
  have HG := Lib.hid oG
  clear oG
  go_wp2_with (fail)
  go_at_call 13
  refine (Spn.eq_same vG vW _ _ (Rng.rsv z0 a1) _ (Spn.own_holds HG.out) HWW.out HK.out).mono ?_
  rintro e x6 ⟨rfl, b6⟩
  have hs6 := b6.size
  have HY0 := Lib.hid (Asks.holds_below HY0.out (b6.mono (by omega)))
  have HWW := Lib.hid (Spn.holds_below HWW.out (b6.mono (by omega)))
  have HX0 := Lib.hid (Asks.row_below HX0.out b6)
  have HG := Lib.hid (Spn.row_below HG.out b6)
  have HB := Lib.hid (Base.then_below HB.out b6)
  clear b6
  go_wp2_with (fail)
  go_at_call 8
  refine (Asks.copy _ _ _ _ HY0.out HL0.out).mono ?_
  rintro e x7 ⟨vC0, rfl, oC0, b7⟩
  have hs7 := b7.size
  have HY0 := Lib.hid (Asks.holds_below HY0.out (b7.mono (by omega)))
  have HWW := Lib.hid (Spn.holds_below HWW.out (b7.mono (by omega)))
  have HX0 := Lib.hid (Asks.row_below HX0.out b7)
  have HG := Lib.hid (Spn.row_below HG.out b7)
  have HB := Lib.hid (Base.then_below HB.out b7)
  clear b7
  have HC0 := Lib.hid (Asks.own_holds oC0)
  clear oC0
  go_wp2_with (fail)
  go_at_call 10
  refine (Asks.eq_same vX0 vC0 _ _ z0 _ (Asks.own_holds HX0.out) HC0.out HL0.out).mono ?_
  rintro e x8 ⟨rfl, b8⟩
  have hs8 := b8.size
  have HY0 := Lib.hid (Asks.holds_below HY0.out (b8.mono (by omega)))
  have HWW := Lib.hid (Spn.holds_below HWW.out (b8.mono (by omega)))
  have HX0 := Lib.hid (Asks.row_below HX0.out b8)
  have HG := Lib.hid (Spn.row_below HG.out b8)
  have HB := Lib.hid (Base.then_below HB.out b8)
  clear b8
  go_wp2_with (fail)
  go_at_call 14
  refine (Asks.mark _ vX0 (z0) 1 _ HX0.out (by omega) (by omega) (by have := HL0.out; omega)).mono ?_
  rintro e x9 ⟨rfl, oX0, g9⟩
  have hs9 := g9.size
  have HR : Hid (∀ k, vX0.ownBlock = some k → x3.heap.size ≤ k) := Lib.hid (fun k e => (HX0.out.lt k e).1)
  have HY0 := Lib.hid (Asks.holds_grown HY0.out g9 (fun k e => by have := HR.out k e; omega))
  have HWW := Lib.hid (Spn.holds_grown HWW.out g9 (fun k e => by have := HR.out k e; omega))
  have HG := Lib.hid (Spn.row_grown HG.out g9 NG_X0.out)
  have HB := Lib.hid (HB.out.grown g9 HB.out.size (fun k e => by have := HR.out k e; omega))
  have HX0 := Lib.hid oX0
  clear oX0 g9 HR
  have hk1 : ¬ ((1 + z0.length * 2 : Nat) : Int) < 0 := by omega
  go_wp2_with (fail)
  go_at_call 13
  refine (Spn.eq_same vG vW _ _ (Rng.rsv z0 a1) _ (Spn.own_holds HG.out) HWW.out HK.out).mono ?_
  rintro e x10 ⟨rfl, b10⟩
  have hs10 := b10.size
  have HY0 := Lib.hid (Asks.holds_below HY0.out (b10.mono (by omega)))
  have HWW := Lib.hid (Spn.holds_below HWW.out (b10.mono (by omega)))
  have HG := Lib.hid (Spn.row_below HG.out b10)
  have HB := Lib.hid (Base.then_below HB.out b10)
  clear b10
  go_wp2_with (fail)
  go_at_call 15
  refine (Spn.mark _ vG (Rng.rsv z0 a1) 1 _ HG.out (by omega) (by omega) (by have := HK.out; omega)).mono ?_
  rintro e x11 ⟨rfl, oG, g11⟩
  have hs11 := g11.size
  have HR : Hid (∀ k, vG.ownBlock = some k → x4.heap.size ≤ k) := Lib.hid (fun k e => (HG.out.lt k e).1)
  have HY0 := Lib.hid (Asks.holds_grown HY0.out g11 (fun k e => by have := HR.out k e; omega))
  have HWW := Lib.hid (Spn.holds_grown HWW.out g11 (fun k e => by have := HR.out k e; omega))
  have HB := Lib.hid (HB.out.grown g11 HB.out.size (fun k e => by have := HR.out k e; omega))
  have HG := Lib.hid oG
  clear oG g11 HR
  have hk2 : ¬ ((1 + (Rng.rsv z0 a1).length * 2 : Nat) : Int) < 0 := by omega
  go_wp2_with (fail)
  go_at_call 16
  refine (Spn.held _ vG 1 (Rng.rsv z0 a1).length _ (Spn.own_holds HG.out) (by omega) (by have := HK.out; omega)).mono ?_
  rintro e x12 ⟨rfl, b12⟩
  have hs12 := b12.size
  have HY0 := Lib.hid (Asks.holds_below HY0.out (b12.mono (by omega)))
  have HWW := Lib.hid (Spn.holds_below HWW.out (b12.mono (by omega)))
  have HG := Lib.hid (Spn.row_below HG.out b12)
  have HB := Lib.hid (Base.then_below HB.out b12)
  clear b12
  go_wp2_with (fail)
  go_at_call 8
  refine (Asks.copy _ _ _ _ HY0.out HL0.out).mono ?_
  rintro e x13 ⟨vP0, rfl, oP0, b13⟩
  have hs13 := b13.size
  have HY0 := Lib.hid (Asks.holds_below HY0.out (b13.mono (by omega)))
  have HWW := Lib.hid (Spn.holds_below HWW.out (b13.mono (by omega)))
  have HG := Lib.hid (Spn.row_below HG.out b13)
  have HB := Lib.hid (Base.then_below HB.out b13)
  clear b13
  have HP0 := Lib.hid (Asks.own_holds oP0)
  clear oP0
  go_wp2_with (fail)
  go_at_call 12
  refine (Rng.impl_rsv vP0 _ z0 a1 ea _ HP0.out (by omega) HL0.out (Rng.nob_below HNB.out HB.out)).mono ?_
  rintro e x14 ⟨vH, rfl, oH, b14⟩
  have hs14 := b14.size
  have HWW := Lib.hid (Spn.holds_below HWW.out (b14.mono (by omega)))
  have HG := Lib.hid (Spn.row_below HG.out b14)
  have HB := Lib.hid (Base.then_below HB.out b14)
  clear b14
  have HH := Lib.hid (Spn.own_holds oH)
  clear oH
  go_wp2_with (fail)
  go_at_call 13
  refine (Spn.eq_same vH vW _ _ (Rng.rsv z0 a1) _ HH.out HWW.out HK.out).mono ?_
  rintro e x15 ⟨rfl, b15⟩
  have hs15 := b15.size
  have HG := Lib.hid (Spn.row_below HG.out b15)
  have HB := Lib.hid (Base.then_below HB.out b15)
  clear b15
  go_wp2_with (fail)
  go_at_call 16
  refine (Spn.held _ vG 1 (Rng.rsv z0 a1).length _ (Spn.own_holds HG.out) (by omega) (by have := HK.out; omega)).mono ?_
  rintro e x16 ⟨rfl, b16⟩
  have hs16 := b16.size
  have HG := Lib.hid (Spn.row_below HG.out b16)
  have HB := Lib.hid (Base.then_below HB.out b16)
  clear b16
  go_wp2
  go_ret
  exact ⟨rfl, HB.out⟩

set_option maxRecDepth 100000 in
theorem lifted (os : Os) (started : os.Started) (H : Type) (enc : TypeId × Value → H) :
    ReturnsInHanded {} Tryd.checked os 4 .any (fun w args => (Rows.fnExactResolveRangesSpec.pre enc Tryd.prog Tryd.f4 [] false w args ∧ laidMetH Tryd.prog Rows.fnExactResolveRangesRow.laid w) ∧ sizedMet enc Tryd.prog Tryd.f4 (OpenSpec.ofChange Rows.fnExactResolveRangesSpec) false w args)
      (Rows.fnExactResolveRangesSpec.post enc Tryd.prog Tryd.f4 false true false false) := by
  refine returnsInHanded_of_change_and (C := Tryd.checked) (X := fun w _ => laidMetH Tryd.prog Rows.fnExactResolveRangesRow.laid w) (fun _ _ _ hh h => h.of_heap hh) own started (by kernel_rfl) Tryd.func4
    (ChangeSpec.witness_shaped (enc := enc) (C := Tryd.checked) (os := os) (X := fun w _ => laidMetH Tryd.prog Rows.fnExactResolveRangesRow.laid w) false (World.doorLaid Tryd.prog 400 os) #[.slice none 0 0, .int .i64 0] 8 rfl (World.shaped_of_RefB (by kernel_rfl) (by kernel_rfl)) (by kernel_rfl) (by kernel_rfl) (by kernel_rfl)
      (by rw [MakeChecks.laidMetH_plain _ _ _ (by kernel_rfl)]; exact laidMet_of_run' 8 (by kernel_rfl) (by kernel_rfl))) ?_
  intro W base args ds gs before hval0 hW _ _ hL _
  have hval : ∀ (j : Nat) t v, Tryd.f4.params[j]? = some t → args[j]? = some v → Value.okWide Tryd.prog W .any base t v := hval0
  have hW' := hW
  obtain ⟨p, q, hA0, hV, rfl, hfz, hnd⟩ := hW
  have hA : DataW.TrodAll enc Tryd.prog W 0 (fun _ => true) true Tryd.f4.params.toList args.toList ds p := hA0
  rw [Tryd.params4] at hA hval
  obtain ⟨v0, vs0, d0, ds0, p0, q0, hargs, rfl, rfl, h0, r0⟩ := trodAll_cons hA
  obtain ⟨v1, vs1, d1, ds1, p1, q1, rfl, rfl, rfl, h1, r1⟩ := trodAll_cons r0
  obtain ⟨rfl, rfl, rfl⟩ := trodAll_nil r1
  obtain rfl : args = #[v0, v1] := by cases args; simp_all
  have hgl := vars_len hV
  obtain ⟨g0, rfl⟩ : ∃ g0, gs = [g0] := List.length_eq_one_iff.1 hgl
  have k0 := h0
  obtain ⟨z0, y0, w01, w02⟩ := Asks.open_arg (hval 0 22 v0 rfl rfl) h0
  have w0 := And.intro w01 w02
  have k1 := h1
  obtain ⟨a1, rfl, rfl, rfl, w1⟩ := open_int Tryd.underlying3 (hval 1 3 v1 rfl rfl) h1
  clear hA0 hval0
  simp only [List.append_nil] at hW'
  have hL' : laidMet Tryd.prog Rows.fnExactResolveRangesRow.laid W := by rw [← MakeChecks.laidMetH_plain _ _ _ (by kernel_rfl)]; exact hL
  refine (walk v0 z0 a1 w0 w1 W y0 (Rng.laid_nob hL' (by simp [Rows.fnExactResolveRangesRow]))).mono fun e W' ⟨he, hb⟩ => ?_
  subst he
  exact ⟨_, rfl, ⟨_, _, _, [], _, _, hW', (trodAll_cons_mk (shut_bool Tryd.underlying4 _) trodAll_mk0), (trodAll_cons_mk (Below.trod laidOut (by kernel_rfl) (of_decide_eq_true (by kernel_rfl)) k0 hb (fun x hx => hW'.lt x (by simp [hx]))) (trodAll_cons_mk (shut_int Tryd.underlying3 w1) trodAll_mk0)), Below.trodVars laidOut hb (by kernel_rfl) hV, hb.frame _, fun h => by cases h⟩⟩

theorem over : Rows.fnExactResolveRangesRow.holds Tryd.pinned (OpenSpec.ofChange Rows.fnExactResolveRangesSpec) :=
  OpenClaim.holds_of_wide 4 Tryd.f4 rfl rfl rfl rfl rfl rfl rfl ⟨rfl, rfl, rfl, rfl, rfl⟩ rfl rfl rfl rfl rfl (by kernel_rfl) Tryd.func4 (by kernel_rfl)
    (of_decide_eq_true (by kernel_rfl)) (by unfold Func.isWrapper; first | (rw [if_pos (by decide +kernel)]; kernel_rfl) | (rw [if_neg (by decide +kernel)]; exact ⟨rfl, rfl⟩))
    (fun os started H enc _ => lifted os started H enc)

/-- The given statement: the law's card, tied. -/
theorem proved : Rows.FnExactResolveRangesCardSaid :=
  Claim7.holds_tied_plain_at .later [] _ true _ _
    over (fun _ h => by cases h) (by kernel_rfl) (fun _ h => by cases h) fnExactResolveRanges_row_tie rfl ⟨rfl, rfl⟩ (by kernel_rfl) rfl
    (fun f fn hf hfn => by
      obtain rfl : f = 4 := Option.some.inj ((show Tryd.prog.funcNamed "loop.example/g03012/laws.FnExactResolveRanges" = some 4 by kernel_rfl).symm.trans hf) |>.symm
      obtain rfl : fn = Tryd.f4 := (Option.some.inj (Tryd.func4.symm.trans hfn)).symm
      exact ⟨by kernel_rfl, fun j t ht => by
        rw [Tryd.params4] at ht
        have hm : t ∈ [22, 3] := by simpa using Array.mem_of_getElem? ht
        have hall : ([22, 3].all fun u => !Tryd.prog.wantsStandIn u) = true := by kernel_rfl
        exact (show Tryd.prog.wantsStandIn t = false by simpa using List.all_eq_true.1 hall t hm)⟩)
    (by kernel_rfl)
#print axioms proved
end Go.Proofs.YtmdmckhlfcogfaaDoor.fnExactResolveRanges
