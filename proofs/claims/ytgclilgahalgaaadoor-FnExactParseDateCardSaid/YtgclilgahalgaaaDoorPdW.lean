/-
  CONTRACT of the model's ParseDate at texts of the other lengths, and at all.
-/
import Derived.Test.YtgclilgahalgaaaDoorPdU
import Derived.Test.YtgclilgahalgaaaDoorPdV
namespace Go.Proofs.YtgclilgahalgaaaDoor.Dt
open Go Go.RowKit
set_option linter.unusedVariables false


set_option maxHeartbeats 1000000 in
theorem spec_pdo (l : List UInt8) (h1 : l.length ≠ 29) (h2 : l.length ≠ 24) (h3 : l.length < 30 ∨ 33 < l.length) (hs : l.length ≤ 67108864) (w : World) : Calls Tryd.prog 4 #[.string ⟨l.toArray⟩] w (PdEnd (pdate l) w) := by
  have hsz : (⟨l.toArray⟩ : ByteArray).size = l.length := by simp [ByteArray.size]
  have HE : Hid (pdate l = (0, false)) := Lib.hid (pdate_no (by
    rintro t (h | h | h)
    · exact h1 (f1_read h).1
    · have := (f2_read h).1; omega
    · exact h2 (f3_read h).1))
  have q1 : ((l.length : Int) == 29) = false := by rw [beq_eq_false_iff_ne]; omega
  have q2 : ((l.length : Int) == 24) = false := by rw [beq_eq_false_iff_ne]; omega
  have HO := Lib.hid (show (l.length : Int) < 30 ∨ 33 < (l.length : Int) by omega)
  have HD := Lib.hid (fun W => spec_days 0 0 0 W (by decide))
  have hd : dof 0 0 0 = -1 := rfl
  rw [hd] at HD
  unfold Num at HD
  unfold PdEnd
  go_enter Tryd.func4, Tryd.ntmps4
  go_wp2_with (fail)
  go_at_call 8
  refine (NumDiv.in_no _ _ _ _ HO.out).mono ?_
  rintro e wn ⟨rfl, rfl⟩
  go_wp2_with (fail)
  go_at_call 9
  refine (HD.out _).mono ?_
  rintro e w1 ⟨rfl, hb1⟩
  have HB := Lib.hid hb1
  clear hb1
  go_wp2
  go_ret2
  exact ⟨by rw [HE.out]; rfl, HB.out⟩
theorem spec_pdate (l : List UInt8) (w : World) (hs : l.length ≤ 67108864) : Calls Tryd.prog 4 #[.string ⟨l.toArray⟩] w (PdEnd (pdate l) w) := by
  by_cases h1 : l.length = 29
  · exact spec_pd29 l h1 hs w
  · by_cases h2 : l.length = 24
    · exact spec_pd24 l h2 hs w
    · by_cases h3 : l.length < 30 ∨ 33 < l.length
      · exact spec_pdo l h1 h2 h3 hs w
      · exact spec_pd30 l (k := l.length - 24) (by omega) (by omega) hs w
end Go.Proofs.YtgclilgahalgaaaDoor.Dt
