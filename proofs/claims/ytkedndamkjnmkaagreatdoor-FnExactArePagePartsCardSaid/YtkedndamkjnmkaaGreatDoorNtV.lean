/-
  CONTRACTS of the program's and the model's IsNormalTarget; nothing that was there before is changed.
-/
import Derived.Test.YtkedndamkjnmkaaGreatDoorNtT
import Derived.Test.YtkedndamkjnmkaaGreatDoorNtU
namespace Go.Proofs.YtkedndamkjnmkaaGreatDoor.Nt
open Go Go.RowKit
set_option linter.unusedVariables false
set_option maxRecDepth 1000000
set_option maxRecDepth 1000000

/-- Whether the target stands in its one way. -/
def isnt (l : List UInt8) : Bool := (ntar l).2 && ((ntar l).1 == l)
set_option maxHeartbeats 2000000 in
theorem spec_isnt (l : List UInt8) (w : World) (hl : l.length ≤ 4194200) :
    Calls Tryz.prog 7 #[.string ⟨l.toArray⟩] w fun e w' => e = .returned (.bool (isnt l)) ∧ Below w.heap.size w w' := by
  have HC := Lib.hid (spec_nt l w hl)
  have HE : Hid (isnt l = ((ntar l).2 && ((ntar l).1 == l))) := Lib.hid rfl
  unfold PairEnd at HC
  generalize isnt l = res at *
  generalize ntar l = np at *
  obtain ⟨r1, r2⟩ := np
  simp only at HC HE
  clear hl
  cases r2
  case false =>
    have HF : Hid (res = false) := Lib.hid (by rw [HE.out]; rfl)
    clear HE
    go_enter Tryz.func7, Tryz.ntmps7
    go_wp2_with (fail)
    go_at_call 21
    refine HC.out.mono ?_
    rintro e w1 ⟨rfl, hb1⟩
    have HB1 := Lib.hid hb1
    clear hb1
    go_wp2
    go_ret
    exact ⟨by rw [HF.out]; first | rfl | (simp; done), HB1.out⟩
  have HF : Hid (res = (r1 == l)) := Lib.hid (by rw [HE.out]; rfl)
  clear HE
  go_enter Tryz.func7, Tryz.ntmps7
  go_wp2_with (fail)
  go_at_call 21
  refine HC.out.mono ?_
  rintro e w1 ⟨rfl, hb1⟩
  have HB1 := Lib.hid hb1
  clear hb1
  go_wp2
  go_ret
  exact ⟨by rw [HF.out]; first | rfl | (simp; done), HB1.out⟩
set_option maxHeartbeats 2000000 in
theorem impl_isnt (l : List UInt8) (w : World) (hl : l.length ≤ 4194200) (he : Par.Errs w) (hm : Sh.MxL w) :
    Calls Tryz.prog 8 #[.string ⟨l.toArray⟩] w fun e w' => e = .returned (.bool (isnt l)) ∧ Below w.heap.size w w' := by
  have HC := Lib.hid (impl_nt l w hl he hm)
  have HE : Hid (isnt l = ((ntar l).2 && ((ntar l).1 == l))) := Lib.hid rfl
  unfold PairEnd at HC
  generalize isnt l = res at *
  generalize ntar l = np at *
  obtain ⟨r1, r2⟩ := np
  simp only at HC HE
  clear he hm hl
  cases r2
  case false =>
    have HF : Hid (res = false) := Lib.hid (by rw [HE.out]; rfl)
    clear HE
    go_enter Tryz.func8, Tryz.ntmps8
    go_wp2_with (fail)
    go_at_call 22
    refine HC.out.mono ?_
    rintro e w1 ⟨rfl, hb1⟩
    have HB1 := Lib.hid hb1
    clear hb1
    go_wp2
    go_ret
    exact ⟨by rw [HF.out]; first | rfl | (simp; done), HB1.out⟩
  have HF : Hid (res = (r1 == l)) := Lib.hid (by rw [HE.out]; rfl)
  clear HE
  go_enter Tryz.func8, Tryz.ntmps8
  go_wp2_with (fail)
  go_at_call 22
  refine HC.out.mono ?_
  rintro e w1 ⟨rfl, hb1⟩
  have HB1 := Lib.hid hb1
  clear hb1
  go_wp2
  go_ret
  exact ⟨by rw [HF.out]; first | rfl | (simp; done), HB1.out⟩
end Go.Proofs.YtkedndamkjnmkaaGreatDoor.Nt
