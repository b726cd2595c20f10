/-
  CONTRACTS of the program's Min and Max.
-/
import Derived.Test.YtebkhailknbnhaaBase
import Derived.LoopTactic
namespace Go.Proofs.Ytebkhailknbnhaa.Mm
open Go Go.RowKit
set_option linter.unusedVariables false
set_option maxRecDepth 1000000
theorem ret_int {a b : Int} (h : a = b) : Ending.returned (.int .i64 a) = .returned (.int .i64 b) := by rw [h]
theorem impl_min (a b : Int) (w : World) : Calls Try.prog 75 #[.int .i64 a, .int .i64 b] w fun e w' => e = .returned (.int .i64 (min a b)) ∧ w = w' := by
  by_cases h : a ≤ b
  · have HE := Lib.hid (show a = min a b by omega)
    go_enter Try.func75, Try.ntmps75
    go_wp2
    all_goals go_ret
    all_goals exact ⟨ret_int (by omega), rfl⟩
  · go_enter Try.func75, Try.ntmps75
    go_wp2
    all_goals go_ret
    all_goals exact ⟨ret_int (by omega), rfl⟩
end Go.Proofs.Ytebkhailknbnhaa.Mm
