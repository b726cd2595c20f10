/-
  PROVED: at every text the program's SplitList returns what its model returns, twice, in memory of its own: the exact law of SplitList returns true and leaves its argument as it was. CONDITION: the library's tables that the row lists read as the library's text lays them (the card ties them to the text); the proof does not use them.
-/
import Derived.Test.YtajojhfddedgbaaDoorBase
import Derived.Carry
import Derived.Test.YtajojhfddedgbaaDoorSplSpec
import Derived.Test.YtajojhfddedgbaaDoorStrEq
import Derived.Test.YtajojhfddedgbaaDoorMarkStr
import Derived.Test.YtajojhfddedgbaaDoorTie
import Derived.Test.YtajojhfddedgbaaDoorCards
import Derived.LaidMore
import Derived.Lay
import Derived.Stop.LaidErr
namespace Go.Proofs.YtajojhfddedgbaaDoor.fnExactSplitList
open Go.ChangeShapes Go.WideShapes Go.ChangeAt Go.RowKit
set_option linter.unusedVariables false

theorem own : ownKnob Tryd.prog.godebug = none := by kernel_rfl

theorem split_len (s : ByteArray) : (Tx.split s.data.toList).length ≤ s.size + 2 := by
  have h : (Tx.cuts false s.data.toList).length ≤ s.data.toList.length + 1 := Tx.cuts_count _ false _ (Nat.le_refl _)
  have h2 := Tx.keep_len (Tx.cuts false s.data.toList)
  rw [Tx.list_len] at h
  unfold Tx.split; omega
set_option maxHeartbeats 1000000 in
theorem walk (a0 : ByteArray) (w0 : a0.size ≤ maxLen) (w : World) :
    Calls Tryd.prog 5 #[.string a0] w fun e w' => e = .returned (.bool true) ∧ Below w.heap.size w w' := by
  clear w0
  by_cases hs : 1048576 < (a0.size : Int)
  · go_enter Tryd.func5, Tryd.ntmps5
    go_wp2
    go_ret
    exact ⟨rfl, Below.refl _ _⟩
  · have hz : a0.size ≤ 1048576 := by omega
    have hlen := split_len a0
    have c1 := Tx.spec_split a0
    have c2 := Tx.impl_split a0
    unfold Tx.SplitEnd at c1 c2
    generalize Tx.split a0.data.toList = xs at c1 c2 hlen
    have hx : xs.length ≤ 1048578 := by omega
    have C1 := Lib.hid c1
    have C2 := Lib.hid c2
    clear c1 c2 hlen hs
    go_enter Tryd.func5, Tryd.ntmps5
    go_wp2_with (fail)
    go_at_call 20
    refine (C1.out _ hz).mono ?_
    rintro e w1 ⟨v1, rfl, o1, b1⟩
    have h1 := Strs.own_holds o1
    have B1 := Lib.hid b1
    clear o1 b1
    go_wp2_with (fail)
    go_at_call 11
    refine (C2.out _ hz).mono ?_
    rintro e w2 ⟨v2, rfl, o2, b2⟩
    have h1 := Strs.holds_below h1 b2
    have h2 := Strs.own_holds o2
    have hs2 := b2.size
    have B2 := Lib.hid b2
    clear b2
    go_wp2_with (fail)
    go_at_call 21
    refine (Strs.eq_same v2 v1 _ _ xs _ h2 h1 (by omega)).mono ?_
    rintro e w3 ⟨rfl, b3⟩
    have o3 := Tx.own_below o2 b3
    have h1 := Strs.holds_below h1 (b3.mono hs2)
    have hs3 := b3.size
    have B3 := Lib.hid (B2.out.trans (b3.mono hs2))
    clear b3 h2 o2
    have O3 := Lib.hid o3
    have H1 := Lib.hid h1
    clear o3 h1
    go_wp2_with (fail)
    go_at_call 22
    refine (Mark.mark_strs w1.heap.size v2 xs 1 _ O3.out (by omega) (by omega) (by omega)).mono ?_
    rintro e w4 ⟨rfl, o4, b4⟩
    have h2 := Strs.own_holds o4
    have H1 := Lib.hid (Strs.holds_below H1.out b4)
    have hs4 := b4.size
    have B4 := Lib.hid (B3.out.trans b4)
    have H2 := Lib.hid h2
    clear b4 h2 O3 B3
    go_wp2_with (fail)
    go_at_call 23
    refine (Mark.held_strs _ v2 1 xs.length _ H2.out (by omega) (by omega)).mono ?_
    rintro e w5 ⟨rfl, b5⟩
    have hs5 := b5.size
    have H1 := Lib.hid (Strs.holds_below H1.out (b5.mono (by omega)))
    have H2 := Lib.hid (Strs.holds_below H2.out b5)
    have B5 := Lib.hid (B4.out.trans (b5.mono (by omega)))
    clear b5 B4
    go_wp2_with (fail)
    go_at_call 11
    refine (C2.out _ hz).mono ?_
    rintro e w6 ⟨v6, rfl, o6, b6⟩
    have hs6 := b6.size
    have h6 := Strs.own_holds o6
    have H1 := Lib.hid (Strs.holds_below H1.out (b6.mono (by omega)))
    have H2 := Lib.hid (Strs.holds_below H2.out (b6.mono (by omega)))
    have B6 := Lib.hid (B5.out.trans (b6.mono (by omega)))
    clear b6 B5 o6
    go_wp2_with (fail)
    go_at_call 21
    refine (Strs.eq_same v6 v1 _ _ xs _ h6 H1.out (by omega)).mono ?_
    rintro e w7 ⟨rfl, b7⟩
    have hs7 := b7.size
    have H2 := Lib.hid (Strs.holds_below H2.out (b7.mono (by omega)))
    have B7 := Lib.hid (B6.out.trans (b7.mono (by omega)))
    clear b7 B6 h6
    go_wp2_with (fail)
    go_at_call 23
    refine (Mark.held_strs _ v2 1 xs.length _ H2.out (by omega) (by omega)).mono ?_
    rintro e w8 ⟨rfl, b8⟩
    have HE := Lib.hid (B1.out.trans ((B7.out.trans (b8.mono (by omega))).mono B1.out.size))
    clear b8 B7
    go_wp2
    go_ret
    exact ⟨rfl, HE.out⟩

set_option maxRecDepth 100000 in
theorem lifted (os : Os) (started : os.Started) (H : Type) (enc : TypeId × Value → H) :
    ReturnsInHanded {} Tryd.checked os 5 .any (fun w args => (Rows.fnExactSplitListSpec.pre enc Tryd.prog Tryd.f5 [] false w args ∧ laidMetH Tryd.prog Rows.fnExactSplitListRow.laid w) ∧ sizedMet enc Tryd.prog Tryd.f5 (OpenSpec.ofChange Rows.fnExactSplitListSpec) false w args)
      (Rows.fnExactSplitListSpec.post enc Tryd.prog Tryd.f5 false true false false) := by
  refine returnsInHanded_of_change_and (C := Tryd.checked) (X := fun w _ => laidMetH Tryd.prog Rows.fnExactSplitListRow.laid w) (fun _ _ _ hh h => h.of_heap hh) own started (by kernel_rfl) Tryd.func5
    (ChangeSpec.witness_shaped (enc := enc) (C := Tryd.checked) (os := os) (X := fun w _ => laidMetH Tryd.prog Rows.fnExactSplitListRow.laid w) false (World.laidAll Tryd.prog os Rows.fnExactSplitListRow.laid) #[.string ⟨#[]⟩] 8 (World.laidAll_os _ _ _) (World.shaped_of_ZipB (by kernel_rfl) (by kernel_rfl)) (by kernel_rfl) (by kernel_rfl) (by kernel_rfl)
      (by rw [MakeChecks.laidMetH_plain _ _ _ (by kernel_rfl)]; exact laidMet_laidAll _ (by kernel_rfl) (by kernel_rfl))) ?_
  intro W base args ds gs before hval0 hW _ _ hL _
  have hval : ∀ (j : Nat) t v, Tryd.f5.params[j]? = some t → args[j]? = some v → Value.okWide Tryd.prog W .any base t v := hval0
  have hW' := hW
  obtain ⟨p, q, hA0, hV, rfl, hfz, hnd⟩ := hW
  have hA : DataW.TrodAll enc Tryd.prog W 0 (fun _ => true) true Tryd.f5.params.toList args.toList ds p := hA0
  rw [Tryd.params5] at hA hval
  obtain ⟨v0, vs0, d0, ds0, p0, q0, hargs, rfl, rfl, h0, r0⟩ := trodAll_cons hA
  obtain ⟨rfl, rfl, rfl⟩ := trodAll_nil r0
  obtain rfl : args = #[v0] := by cases args; simp_all
  obtain ⟨rfl, rfl⟩ := trodVars_none hV
  have k0 := h0
  obtain ⟨a0, rfl, rfl, rfl, w0⟩ := Go.ChangeMaps.open_string Tryd.underlying9 (hval 0 9 v0 rfl rfl) h0
  clear hA0 hval0
  simp only [List.append_nil] at hW'
  have hL' : laidMet Tryd.prog Rows.fnExactSplitListRow.laid W := by rw [← MakeChecks.laidMetH_plain _ _ _ (by kernel_rfl)]; exact hL
  refine (walk a0 w0 W).mono fun e W' ⟨he, hb⟩ => ?_
  subst he
  exact ⟨_, rfl, Base.post_below (pa := []) (pv := []) hW' (fun _ _ _ => (trodAll_cons_mk (shut_bool Tryd.underlying4 _) trodAll_mk0)) (fun sp _ => (trodAll_cons_mk (Go.ChangeMaps.shut_string Tryd.underlying9 w0) trodAll_mk0)) (fun _ _ => rfl) rfl
    hb (ok_one (by kernel_rfl) rfl (okWide_bool_mk Tryd.underlying4 _))⟩

theorem over : Rows.fnExactSplitListRow.holds Tryd.pinned (OpenSpec.ofChange Rows.fnExactSplitListSpec) :=
  OpenClaim.holds_of_wide 5 Tryd.f5 rfl rfl rfl rfl rfl rfl rfl ⟨rfl, rfl, rfl, rfl, rfl⟩ rfl rfl rfl rfl rfl (by kernel_rfl) Tryd.func5 (by kernel_rfl)
    (of_decide_eq_true (by kernel_rfl)) (by unfold Func.isWrapper; first | (rw [if_pos (by decide +kernel)]; kernel_rfl) | (rw [if_neg (by decide +kernel)]; exact ⟨rfl, rfl⟩))
    (fun os started H enc _ => lifted os started H enc)

/-- The given statement: the law's card, tied. -/
theorem proved : Rows.FnExactSplitListCardSaid :=
  Claim7.holds_tied_plain_at .later [] _ true _ _
    over (fun _ h => by cases h) (by kernel_rfl) (fun _ h => by cases h) fnExactSplitList_row_tie rfl ⟨rfl, rfl⟩ (by kernel_rfl) rfl
    (fun f fn hf hfn => by
      obtain rfl : f = 5 := Option.some.inj ((show Tryd.prog.funcNamed "loop.example/g03012/laws.FnExactSplitList" = some 5 by kernel_rfl).symm.trans hf) |>.symm
      obtain rfl : fn = Tryd.f5 := (Option.some.inj (Tryd.func5.symm.trans hfn)).symm
      exact ⟨by kernel_rfl, fun j t ht => by
        rw [Tryd.params5] at ht
        have hm : t ∈ [9] := by simpa using Array.mem_of_getElem? ht
        have hall : ([9].all fun u => !Tryd.prog.wantsStandIn u) = true := by kernel_rfl
        exact (show Tryd.prog.wantsStandIn t = false by simpa using List.all_eq_true.1 hall t hm)⟩)
    (by kernel_rfl)
#print axioms proved
end Go.Proofs.YtajojhfddedgbaaDoor.fnExactSplitList
