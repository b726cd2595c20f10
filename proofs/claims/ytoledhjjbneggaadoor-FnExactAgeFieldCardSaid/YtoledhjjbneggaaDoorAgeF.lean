/-
  CONTRACTS of both sides' AgeField.
-/
import Derived.Test.YtoledhjjbneggaaDoorLGet
import Derived.Test.YtoledhjjbneggaaDoorPin
import Derived.Test.YtoledhjjbneggaaDoorMinS
import Derived.Test.YtoledhjjbneggaaDoorClp
import Derived.Test.YtoledhjjbneggaaDoorRec
namespace Go.Proofs.YtoledhjjbneggaaDoor.Age
open Go Go.RowKit
set_option linter.unusedVariables false
/-- The name of the field. -/
def ageN : List UInt8 := [97, 103, 101]
/-- The age that an answer itself says. -/
def agef (l : List Flds.Fld) : Int := min (Pin.pin (Flds.got ageN l)).1 2147483648
def NumEnd (z : Int) (w : World) (e : Ending) (w' : World) : Prop := e = .returned (.int .i64 z) ∧ Below w.heap.size w w'
theorem ret_n {a b : Int} (h : a = b) : Ending.returned (.int .i64 a) = .returned (.int .i64 b) := by rw [h]
theorem agef_bd (l : List Flds.Fld) : 0 ≤ agef l ∧ agef l ≤ 2147483648 := by have := Pin.pin_nn (Flds.got ageN l); unfold agef; omega
/-- a struct of three cells that was laid by a call stays. -/
theorem kept3 {w w1 : World} {T : TypeId} {a b c : Value} (hb : Below (w.alloc (.cells #[a, b, c] T)).heap.size (w.alloc (.cells #[a, b, c] T)) w1) :
    (w1.cell? ⟨w.heap.size, 0, none⟩ = some a ∧ w1.cell? ⟨w.heap.size, 1, none⟩ = some b ∧ w1.cell? ⟨w.heap.size, 2, none⟩ = some c) ∧ Below w.heap.size w w1 := by
  refine ⟨⟨?_, ?_, ?_⟩, ((Below.refl _ _).alloc (Nat.le_refl _) _).trans (hb.mono (by simp))⟩
  · rw [hb.cell (p := ⟨w.heap.size, 0, none⟩) (by simp), World.cell?_alloc_new]; rfl
  · rw [hb.cell (p := ⟨w.heap.size, 1, none⟩) (by simp), World.cell?_alloc_new]; rfl
  · rw [hb.cell (p := ⟨w.heap.size, 2, none⟩) (by simp), World.cell?_alloc_new]; rfl

set_option maxHeartbeats 2000000 in
theorem spec_agef (c : Int) (v : Value) (B : Nat) (l : List Flds.Fld) (b : List UInt8) (w : World) (h : Flds.Holds w B v l) (hB : B ≤ w.heap.size) (hl : Flds.total l ≤ 1048576) :
    Calls Tryd.prog 10 #[.agg #[.int .i64 c, v, .string ⟨b.toArray⟩]] w (NumEnd (agef l) w) := by
  have HB0 : Hid (Below w.heap.size w (w.alloc (.cells #[.int .i64 c, v, .string ⟨b.toArray⟩] 34))) := Lib.hid ((Below.refl _ _).alloc (Nat.le_refl _) _)
  have hg : (Flds.got ageN l).length ≤ 4194304 := by have := Flds.got_len ageN l; omega
  have HG := Lib.hid (Flds.spec_lget v B l ageN _ (Flds.holds_below h (HB0.out.mono hB)) (by omega))
  have HP := Lib.hid (fun W => Pin.spec_pin (Flds.got ageN l) W hg)
  have HE : Hid (agef l = min (Pin.pin (Flds.got ageN l)).1 2147483648) := Lib.hid rfl
  unfold Flds.GotEnd at HG
  unfold Pin.PinEnd at HP
  clear h hl hg
  generalize agef l = z at HE ⊢
  generalize Flds.got ageN l = t at HG HP HE
  generalize Pin.pin t = p at HP HE
  unfold ageN at HG
  unfold NumEnd
  go_enter Tryd.func10, Tryd.ntmps10
  go_wp2_with (fail)
  go_at_call 22
  refine HG.out.mono ?_
  rintro e w1 ⟨rfl, hb1⟩
  have HB1 := Lib.hid (HB0.out.trans (hb1.mono HB0.out.size))
  clear hb1
  go_wp2_with (fail)
  go_at_call 21
  refine (HP.out _).mono ?_
  rintro e w2 ⟨rfl, hb2⟩
  have HB2 := Lib.hid (Base.then_below HB1.out hb2)
  clear hb2
  go_wp2_with (fail)
  go_at_call 23
  refine (Mm.spec_min _ _ _).mono ?_
  rintro e w3 ⟨rfl, rfl⟩
  go_wp2
  go_ret
  exact ⟨ret_n HE.out.symm, HB2.out⟩

set_option maxHeartbeats 2000000 in
theorem impl_agef (c : Int) (v : Value) (B : Nat) (l : List Flds.Fld) (b : List UInt8) (w : World) (h : Flds.Holds w B v l) (hB : B ≤ w.heap.size) (hl : Flds.total l ≤ 1048576) (ht : Fmt.Tens w) (he : Par.Errs w) :
    Calls Tryd.prog 12 #[.agg #[.int .i64 c, v, .string ⟨b.toArray⟩]] w (NumEnd (agef l) w) := by
  have HB0 : Hid (Below w.heap.size w (w.alloc (.cells #[.int .i64 c, v, .string ⟨b.toArray⟩] 34))) := Lib.hid ((Below.refl _ _).alloc (Nat.le_refl _) _)
  have hg : (Flds.got ageN l).length ≤ 4194304 := by have := Flds.got_len ageN l; omega
  have HG := Lib.hid (Flds.impl_get v B l ageN _ (Flds.holds_below h (HB0.out.mono hB)) (Nat.le_trans hB HB0.out.size) hl)
  have HP := Lib.hid (fun W (hb : Below w.heap.size w W) => Pin.impl_pin (Flds.got ageN l) W hg (Fmt.tens_below ht hb) (Par.errs_below he hb))
  have HE : Hid (agef l = min (max (Pin.pin (Flds.got ageN l)).1 0) 2147483648) := Lib.hid (by have := Pin.pin_nn (Flds.got ageN l); unfold agef; omega)
  unfold Flds.GetEnd at HG
  unfold Pin.PinEnd at HP
  clear h hl hg ht he
  have hj : Tx.join (Flds.vals ageN l) = Flds.got ageN l := rfl
  rw [hj] at HG
  clear hj
  generalize agef l = z at HE ⊢
  generalize Flds.got ageN l = t at HG HP HE
  generalize decide (0 < (Flds.vals ageN l).length) = q at HG
  generalize Pin.pin t = p at HP HE
  unfold ageN at HG
  unfold NumEnd
  go_enter Tryd.func12, Tryd.ntmps12
  go_wp2_with (fail)
  go_at_call 25
  refine HG.out.mono ?_
  rintro e w1 ⟨rfl, hb1⟩
  have HB1 := Lib.hid (HB0.out.trans (hb1.mono HB0.out.size))
  clear hb1
  go_wp2_with (fail)
  go_at_call 26
  refine (HP.out _ HB1.out).mono ?_
  rintro e w2 ⟨rfl, hb2⟩
  have HB2 := Lib.hid (Base.then_below HB1.out hb2)
  clear hb2
  go_wp2_with (fail)
  go_at_call 27
  refine (Mm.impl_clamp _ _ _ _).mono ?_
  rintro e w3 ⟨rfl, rfl⟩
  go_wp2
  go_ret
  exact ⟨ret_n HE.out.symm, HB2.out⟩
end Go.Proofs.YtoledhjjbneggaaDoor.Age
