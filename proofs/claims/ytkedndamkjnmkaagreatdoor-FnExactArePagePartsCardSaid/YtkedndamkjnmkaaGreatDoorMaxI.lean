/-
  CONTRACT of the program's Max.
-/
import Derived.Test.YtkedndamkjnmkaaGreatDoorBase
import Derived.LoopTactic
namespace Go.Proofs.YtkedndamkjnmkaaGreatDoor.Mm
open Go Go.RowKit
set_option linter.unusedVariables false
set_option maxRecDepth 1000000
theorem ret_max_impl {a b : Int} (h : a = b) : Ending.returned (.int .i64 a) = .returned (.int .i64 b) := by rw [h]
theorem impl_max (a b : Int) (w : World) : Calls Tryz.prog 69 #[.int .i64 a, .int .i64 b] w fun e w' => e = .returned (.int .i64 (max a b)) ∧ w = w' := by
  by_cases h : b ≤ a
  · go_enter Tryz.func69, Tryz.ntmps69
    go_wp2
    all_goals go_ret
    all_goals exact ⟨ret_max_impl (by omega), rfl⟩
  · go_enter Tryz.func69, Tryz.ntmps69
    go_wp2
    all_goals go_ret
    all_goals exact ⟨ret_max_impl (by omega), rfl⟩
end Go.Proofs.YtkedndamkjnmkaaGreatDoor.Mm
