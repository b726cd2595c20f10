/-
  CONTRACT of the program's clamp.
-/
import Derived.Test.YtfgpphbfampjjaaBase
import Derived.LoopTactic
namespace Go.Proofs.Ytfgpphbfampjjaa.Mm
open Go Go.RowKit
set_option linter.unusedVariables false
theorem ret_clp {a b : Int} (h : a = b) : Ending.returned (.int .i64 a) = .returned (.int .i64 b) := by rw [h]
theorem impl_clamp (n lo hi : Int) (w : World) : Calls Try.prog 88 #[.int .i64 n, .int .i64 lo, .int .i64 hi] w fun e w' => e = .returned (.int .i64 (min (max n lo) hi)) ∧ w = w' := by
  by_cases h : lo ≤ n <;> by_cases h2 : n ≤ hi <;> by_cases h3 : lo ≤ hi
  all_goals
    go_enter Try.func88, Try.ntmps88
    go_wp2
    all_goals go_ret
    all_goals exact ⟨ret_clp (by omega), rfl⟩
end Go.Proofs.Ytfgpphbfampjjaa.Mm
