/-
  CONTRACT of the model's Max.
-/
import Derived.Test.YtnffoifkinpmpaaBase
import Derived.LoopTactic
namespace Go.Proofs.Ytnffoifkinpmpaa.Mm
open Go Go.RowKit
set_option linter.unusedVariables false
set_option maxRecDepth 1000000
theorem ret_max_spec {a b : Int} (h : a = b) : Ending.returned (.int .i64 a) = .returned (.int .i64 b) := by rw [h]
theorem spec_max (a b : Int) (w : World) : Calls Try.prog 47 #[.int .i64 a, .int .i64 b] w fun e w' => e = .returned (.int .i64 (max a b)) ∧ w = w' := by
  by_cases h : b ≤ a
  · go_enter Try.func47, Try.ntmps47
    go_wp2
    all_goals go_ret
    all_goals exact ⟨ret_max_spec (by omega), rfl⟩
  · go_enter Try.func47, Try.ntmps47
    go_wp2
    all_goals go_ret
    all_goals exact ⟨ret_max_spec (by omega), rfl⟩
end Go.Proofs.Ytnffoifkinpmpaa.Mm
