/-
  CONTRACTS of both sides' StampOf; nothing that was there before is changed.
-/
import Derived.Test.YtddpfhcmifnagaaDoorLGet
import Derived.Test.YtddpfhcmifnagaaDoorPin
import Derived.Test.YtddpfhcmifnagaaDoorRec
namespace Go.Proofs.YtddpfhcmifnagaaDoor.Stp
open Go Go.RowKit
set_option linter.unusedVariables false
/-- The name of the field. -/
def stN : List UInt8 := [120, 45, 112, 117, 114, 103, 101]
/-- The stamp of an answer. -/
def stamp (l : List Flds.Fld) : Int := (Pin.pin (Flds.got stN l)).1
def NumEnd (z : Int) (w : World) (e : Ending) (w' : World) : Prop := e = .returned (.int .i64 z) ∧ Below w.heap.size w w'

set_option maxHeartbeats 2000000 in
theorem spec_stp (c : Int) (v : Value) (B : Nat) (l : List Flds.Fld) (b : List UInt8) (w : World) (h : Flds.Holds w B v l) (hB : B ≤ w.heap.size) (hl : Flds.total l ≤ 1048576) :
    Calls Tryd.prog 5 #[.agg #[.int .i64 c, v, .string ⟨b.toArray⟩]] w (NumEnd (stamp l) w) := by
  have HB0 : Hid (Below w.heap.size w (w.alloc (.cells #[.int .i64 c, v, .string ⟨b.toArray⟩] 29))) := Lib.hid ((Below.refl _ _).alloc (Nat.le_refl _) _)
  have hg : (Flds.got stN l).length ≤ 4194304 := by have := Flds.got_len stN l; omega
  have HG := Lib.hid (Flds.spec_lget v B l stN _ (Flds.holds_below h (HB0.out.mono hB)) (by omega))
  have HP := Lib.hid (fun W => Pin.spec_pin (Flds.got stN l) W hg)
  unfold Flds.GotEnd at HG
  unfold Pin.PinEnd at HP
  clear h hl hg
  unfold stamp NumEnd
  generalize Flds.got stN l = t at HG HP ⊢
  generalize Pin.pin t = p at HP ⊢
  unfold stN at HG
  go_enter Tryd.func5, Tryd.ntmps5
  go_wp2_with (fail)
  go_at_call 11
  refine HG.out.mono ?_
  rintro e w1 ⟨rfl, hb1⟩
  have HB1 := Lib.hid (HB0.out.trans (hb1.mono HB0.out.size))
  clear hb1
  go_wp2_with (fail)
  go_at_call 10
  refine (HP.out _).mono ?_
  rintro e w2 ⟨rfl, hb2⟩
  have HB2 := Lib.hid (Base.then_below HB1.out hb2)
  clear hb2
  go_wp2
  go_ret
  exact ⟨rfl, HB2.out⟩

set_option maxHeartbeats 2000000 in
theorem impl_stp (c : Int) (v : Value) (B : Nat) (l : List Flds.Fld) (b : List UInt8) (w : World) (h : Flds.Holds w B v l) (hB : B ≤ w.heap.size) (hl : Flds.total l ≤ 1048576) (ht : Fmt.Tens w) (he : Par.Errs w) :
    Calls Tryd.prog 7 #[.agg #[.int .i64 c, v, .string ⟨b.toArray⟩]] w (NumEnd (stamp l) w) := by
  have HB0 : Hid (Below w.heap.size w (w.alloc (.cells #[.int .i64 c, v, .string ⟨b.toArray⟩] 29))) := Lib.hid ((Below.refl _ _).alloc (Nat.le_refl _) _)
  have hg : (Flds.got stN l).length ≤ 4194304 := by have := Flds.got_len stN l; omega
  have HG := Lib.hid (Flds.impl_get v B l stN _ (Flds.holds_below h (HB0.out.mono hB)) (Nat.le_trans hB HB0.out.size) hl)
  have HP := Lib.hid (fun W (hb : Below w.heap.size w W) => Pin.impl_pin (Flds.got stN l) W hg (Fmt.tens_below ht hb) (Par.errs_below he hb))
  unfold Flds.GetEnd at HG
  unfold Pin.PinEnd at HP
  clear h hl hg ht he
  have hj : Tx.join (Flds.vals stN l) = Flds.got stN l := rfl
  rw [hj] at HG
  clear hj
  unfold stamp NumEnd
  generalize Flds.got stN l = t at HG HP ⊢
  generalize decide (0 < (Flds.vals stN l).length) = q at HG
  generalize Pin.pin t = p at HP ⊢
  unfold stN at HG
  go_enter Tryd.func7, Tryd.ntmps7
  go_wp2_with (fail)
  go_at_call 13
  refine HG.out.mono ?_
  rintro e w1 ⟨rfl, hb1⟩
  have HB1 := Lib.hid (HB0.out.trans (hb1.mono HB0.out.size))
  clear hb1
  go_wp2_with (fail)
  go_at_call 14
  refine (HP.out _ HB1.out).mono ?_
  rintro e w2 ⟨rfl, hb2⟩
  have HB2 := Lib.hid (Base.then_below HB1.out hb2)
  clear hb2
  go_wp2
  go_ret
  exact ⟨rfl, HB2.out⟩
end Go.Proofs.YtddpfhcmifnagaaDoor.Stp
