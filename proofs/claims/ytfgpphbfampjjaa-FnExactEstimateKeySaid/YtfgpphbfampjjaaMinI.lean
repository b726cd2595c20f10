/-
  CONTRACTS of the program's Min and Max.
-/
import Derived.Test.YtfgpphbfampjjaaBase
import Derived.LoopTactic
namespace Go.Proofs.Ytfgpphbfampjjaa.Mm
open Go Go.RowKit
set_option linter.unusedVariables false
theorem ret_int {a b : Int} (h : a = b) : Ending.returned (.int .i64 a) = .returned (.int .i64 b) := by rw [h]
theorem impl_min (a b : Int) (w : World) : Calls Try.prog 62 #[.int .i64 a, .int .i64 b] w fun e w' => e = .returned (.int .i64 (min a b)) ∧ w = w' := by
  by_cases h : a ≤ b
  · have HE := Lib.hid (show a = min a b by omega)
    go_enter Try.func62, Try.ntmps62
    go_wp2
    all_goals go_ret
    all_goals exact ⟨ret_int (by omega), rfl⟩
  · go_enter Try.func62, Try.ntmps62
    go_wp2
    all_goals go_ret
    all_goals exact ⟨ret_int (by omega), rfl⟩
end Go.Proofs.Ytfgpphbfampjjaa.Mm
