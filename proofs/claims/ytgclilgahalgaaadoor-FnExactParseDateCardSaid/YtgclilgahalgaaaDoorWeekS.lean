/-
  CONTRACT of the model's WeekdayOf: at every integer of 64 bits it returns the weekday; the world stays as it was.
-/
import Derived.Test.YtgclilgahalgaaaDoorLeapS
namespace Go.Proofs.YtgclilgahalgaaaDoor.Dt
open Go Go.RowKit
set_option linter.unusedVariables false

theorem spec_week (d : Int) (w : World) (wd : (Lit.int .i64 d).wf = true) :
    Calls Tryd.prog 19 #[.int .i64 d] w fun e w' => e = .returned (.int .i64 ((d % 7 + 4) % 7)) ∧ w = w' := by
  have c1 := mod_s d 7 w wd (by omega) (by omega)
  have h0 : 0 ≤ d % 7 := by omega
  have h1 : d % 7 ≤ 6 := by omega
  generalize d % 7 = a at *
  have c2 := mod_s (a + 4) 7 w (Go.WalkArith.wf_i64 ⟨by omega, by omega⟩) (by omega) (by omega)
  generalize (a + 4) % 7 = b at *
  go_enter Tryd.func19, Tryd.ntmps19
  go_wp2_with (fail)
  go_at_call 29
  refine c1.mono ?_
  rintro e w' ⟨rfl, rfl⟩
  go_wp2_with (fail)
  go_at_call 29
  refine c2.mono ?_
  rintro e w' ⟨rfl, rfl⟩
  go_wp2
  go_ret
  exact ⟨rfl, rfl⟩
end Go.Proofs.YtgclilgahalgaaaDoor.Dt
