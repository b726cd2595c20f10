/-
  CONTRACT of the program's ParseInt: at every text of at most 2 to the 48 bytes, where the library's table of powers of ten and its two errors read as they are written, it answers the number whose decimal numeral the text is, if it lies between 0 and the greatest integer that is read; nothing that was there before is changed.
-/
import Derived.Test.YtflkdjafehhgmaaGreatDoorParSpec
import Derived.Test.YtflkdjafehhgmaaGreatDoorFmtImpl
import Derived.Lib.SmallJoins
namespace Go.Proofs.YtflkdjafehhgmaaGreatDoor.Par
open Go Go.RowKit
set_option linter.unusedVariables false
set_option maxRecDepth 1000000

/-- The library's two errors are there. -/
def Errs (w : World) : Prop := (∃ tp p, w.var? Tryz.prog "strconv.ErrSyntax" = some #[.iface tp p]) ∧ (∃ tp p, w.var? Tryz.prog "strconv.ErrRange" = some #[.iface tp p])
theorem errs_below {W w1 : World} (h : Errs W) (hb : Below W.heap.size W w1) : Errs w1 := by
  obtain ⟨⟨tp, p, h1⟩, ⟨tq, q, h2⟩⟩ := h
  exact ⟨⟨tp, p, Base.var_below h1 hb⟩, ⟨tq, q, Base.var_below h2 hb⟩⟩


theorem atoi_ok (s : ByteArray) (hs : s.size ≤ 281474976710656) (v : Int) (h : Lib.atoiAll s.data.toList = .ok v) (w : World) :
    Calls Tryz.prog 129 #[.string s] w fun e w' => e = .returned (.tuple #[.int .i64 v, .nilIface]) ∧ Below w.heap.size w w' := by
  refine (Tryz.strconv_Atoi_ok s (by omega) v h w).mono ?_
  rintro e w' ⟨rfl, rfl | ⟨t, rfl⟩⟩
  · exact ⟨rfl, Below.refl _ _⟩
  · exact ⟨rfl, Joins.below_bytesWorld _ _ _ _ (Nat.le_refl _)⟩
/-- Any other end of Atoi: an error that is there. -/
theorem atoi_err (s : ByteArray) (hs : s.size ≤ 281474976710656) (h : ∀ v, Lib.atoiAll s.data.toList ≠ .ok v) (w : World) (he : Errs w) :
    Calls Tryz.prog 129 #[.string s] w fun e w' => (∃ z p, e = .returned (.tuple #[.int .i64 z, .iface 192 (.pointer (some p))])) ∧ Below w.heap.size w w' := by
  obtain ⟨⟨tp, p, h1⟩, ⟨tq, q, h2⟩⟩ := he
  rcases hk : Lib.atoiAll s.data.toList with v | _ | _
  · exact absurd hk (h v)
  · refine (Tryz.strconv_Atoi_syntax_var s hs hk tp p w h1).mono ?_
    rintro e w' ⟨N, rfl, _, _, hb⟩
    exact ⟨⟨_, _, rfl⟩, hb⟩
  · refine (Tryz.strconv_Atoi_range_var s hs hk tq q w h2).mono ?_
    rintro e w' ⟨N, rfl, _, _, hb⟩
    exact ⟨⟨_, _, rfl⟩, hb⟩

theorem ps_noatoi {s : ByteArray} (h : ∀ v, Lib.atoiAll s.data.toList ≠ .ok v) : PS s.data.toList 0 false := by
  refine Or.inr ⟨rfl, rfl, fun u h0 h1 e => ?_⟩
  exact h u (e ▸ atoi_itoa h0 h1)
theorem ps_out {s : ByteArray} {v : Int} (h : Lib.atoiAll s.data.toList = .ok v) (hv : v < 0 ∨ 1000000000000 < v) : PS s.data.toList 0 false := by
  refine Or.inr ⟨rfl, rfl, fun u h0 h1 e => ?_⟩
  have := atoi_itoa h0 h1
  rw [e, h] at this
  injection this with this
  omega
theorem ps_not {s : ByteArray} {v : Int} (h : Lib.atoiAll s.data.toList = .ok v) (hv : Lib.itoa v ≠ s.data.toList) : PS s.data.toList 0 false := by
  refine Or.inr ⟨rfl, rfl, fun u h0 h1 e => ?_⟩
  have := atoi_itoa h0 h1
  rw [e, h] at this
  injection this with this
  exact hv (this ▸ e)

set_option maxHeartbeats 1000000 in
theorem impl_parse (s : ByteArray) (w : World) (hs : s.size ≤ 281474976710656) (ht : Fmt.Tens w) (he : Errs w) :
    Calls Tryz.prog 85 #[.string s] w (Parsed s.data.toList w) := by
  by_cases hk : ∃ v, Lib.atoiAll s.data.toList = .ok v
  · obtain ⟨v, hv⟩ := hk
    have hbd := Lib.atoiAll_bounds hv
    obtain ⟨b0, b1⟩ := hbd
    have HV := Lib.hid hv
    clear hv
    by_cases hn : v < 0
    · have G := Lib.hid (ps_out HV.out (Or.inl hn))
      go_enter Tryz.func85, Tryz.ntmps85
      go_wp2_with (go_at_call 129; refine (atoi_ok s hs v HV.out _).mono ?_; rintro e w1 ⟨rfl, hb1⟩)
      go_ret2
      exact ⟨_, _, G.out, rfl, hb1⟩
    · by_cases hg : 1000000000000 < v
      · have G := Lib.hid (ps_out HV.out (Or.inr hg))
        go_enter Tryz.func85, Tryz.ntmps85
        go_wp2_with (go_at_call 129; refine (atoi_ok s hs v HV.out _).mono ?_; rintro e w1 ⟨rfl, hb1⟩)
        go_ret2
        exact ⟨_, _, G.out, rfl, hb1⟩
      · go_enter Tryz.func85, Tryz.ntmps85
        go_wp2_with (first | (go_at_call 129; refine (atoi_ok s hs v HV.out _).mono ?_; rintro e w1 ⟨rfl, hb1⟩) | (go_at_call 130; refine (Fmt.impl_fmt v b0 b1 _ (Fmt.tens_below ht hb1)).mono ?_; rintro e w2 ⟨rfl, hb2⟩))
        · have hq : (!Lib.itoa v == s.toList) = true := by assumption
          go_ret2
          exact ⟨_, _, ps_not HV.out (list_ne hq), rfl, Base.then_below hb1 hb2⟩
        · have hq : (!Lib.itoa v == s.toList) = false := by assumption
          go_ret2
          exact ⟨_, _, Or.inl ⟨rfl, by omega, by omega, list_eq hq⟩, rfl, Base.then_below hb1 hb2⟩
  · have hno : ∀ v, Lib.atoiAll s.data.toList ≠ .ok v := fun v h => hk ⟨v, h⟩
    have HN := Lib.hid hno
    have G := Lib.hid (ps_noatoi hno)
    clear hk hno
    go_enter Tryz.func85, Tryz.ntmps85
    go_wp2_with (go_at_call 129; refine (atoi_err s hs HN.out _ he).mono ?_; rintro e w1 ⟨⟨z, p, rfl⟩, hb1⟩)
    go_ret2
    exact ⟨_, _, G.out, rfl, hb1⟩
end Go.Proofs.YtflkdjafehhgmaaGreatDoor.Par
