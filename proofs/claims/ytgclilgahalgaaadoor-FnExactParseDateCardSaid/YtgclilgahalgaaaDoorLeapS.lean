/-
  CONTRACT of the model's IsLeap: at every integer of 64 bits it returns whether the year is a leap year; the world stays as it was.
-/
import Derived.Test.YtgclilgahalgaaaDoorLeapM
import Derived.Test.YtgclilgahalgaaaDoorNumSpecMod
namespace Go.Proofs.YtgclilgahalgaaaDoor.Dt
open Go Go.RowKit
set_option linter.unusedVariables false

theorem mod_s (y m : Int) (w : World) (wy : (Lit.int .i64 y).wf = true) (h1 : 1 ≤ m) (h2 : m ≤ 1000000) :
    Calls Tryd.prog 29 #[.int .i64 y, .int .i64 m] w fun e w' => e = .returned (.int .i64 (y % m)) ∧ w = w' := by
  have c := NumDiv.spec_mod y m w wy (Go.WalkArith.wf_i64 ⟨by omega, by omega⟩)
  rw [NumDiv.md_in h1 (by omega)] at c
  exact c

set_option maxHeartbeats 1000000 in
theorem spec_leap (y : Int) (w : World) (wy : (Lit.int .i64 y).wf = true) :
    Calls Tryd.prog 16 #[.int .i64 y] w fun e w' => e = .returned (.bool (lpB y)) ∧ w = w' := by
  have c4 := mod_s y 4 w wy (by omega) (by omega)
  have c100 := mod_s y 100 w wy (by omega) (by omega)
  have c400 := mod_s y 400 w wy (by omega) (by omega)
  by_cases h4 : y % 4 = 0
  · by_cases h100 : y % 100 = 0
    · rw [lp_cent h100]
      have k4 := b_yes h4
      have k100 := n_no h100
      generalize y % 4 = a at *
      generalize y % 100 = b at *
      generalize y % 400 = c at *
      clear h4 h100
      go_enter Tryd.func16, Tryd.ntmps16
      go_wp2_with (fail)
      go_at_call 29
      refine c4.mono ?_
      rintro e w' ⟨rfl, rfl⟩
      go_wp2_with (fail)
      go_at_call 29
      refine c100.mono ?_
      rintro e w' ⟨rfl, rfl⟩
      go_wp2_with (fail)
      go_at_call 29
      refine c400.mono ?_
      rintro e w' ⟨rfl, rfl⟩
      go_wp2
      go_ret
      exact ⟨rfl, rfl⟩
    · rw [lp_yes h4 h100]
      have k4 := b_yes h4
      have k100 := n_yes h100
      generalize y % 4 = a at *
      generalize y % 100 = b at *
      clear h4 h100
      go_enter Tryd.func16, Tryd.ntmps16
      go_wp2_with (fail)
      go_at_call 29
      refine c4.mono ?_
      rintro e w' ⟨rfl, rfl⟩
      go_wp2_with (fail)
      go_at_call 29
      refine c100.mono ?_
      rintro e w' ⟨rfl, rfl⟩
      go_wp2
      go_ret
      exact ⟨rfl, rfl⟩
  · rw [lp_no h4]
    have k4 := b_no h4
    generalize y % 4 = a at *
    clear h4
    go_enter Tryd.func16, Tryd.ntmps16
    go_wp2_with (fail)
    go_at_call 29
    refine c4.mono ?_
    rintro e w' ⟨rfl, rfl⟩
    go_wp2
    go_ret
    exact ⟨rfl, rfl⟩
end Go.Proofs.YtgclilgahalgaaaDoor.Dt
