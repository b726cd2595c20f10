/-
  CONTRACTS of the model's Min.
-/
import Derived.Test.YtebkhailknbnhaaBase
import Derived.LoopTactic
namespace Go.Proofs.Ytebkhailknbnhaa.Mm
theorem ret_int2 {a b : Int} (h : a = b) : Go.Ending.returned (.int .i64 a) = .returned (.int .i64 b) := by rw [h]
open Go Go.RowKit
set_option linter.unusedVariables false
set_option maxRecDepth 1000000
theorem spec_min (a b : Int) (w : World) : Calls Try.prog 71 #[.int .i64 a, .int .i64 b] w fun e w' => e = .returned (.int .i64 (min a b)) ∧ w = w' := by
  by_cases h : a ≤ b
  · have HE := Lib.hid (show a = min a b by omega)
    go_enter Try.func71, Try.ntmps71
    go_wp2
    all_goals go_ret
    all_goals exact ⟨Go.Proofs.Ytebkhailknbnhaa.Mm.ret_int2 (by omega), rfl⟩
  · go_enter Try.func71, Try.ntmps71
    go_wp2
    all_goals go_ret
    all_goals exact ⟨Go.Proofs.Ytebkhailknbnhaa.Mm.ret_int2 (by omega), rfl⟩
end Go.Proofs.Ytebkhailknbnhaa.Mm
