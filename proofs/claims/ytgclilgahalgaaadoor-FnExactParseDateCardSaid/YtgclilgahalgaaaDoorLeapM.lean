/-
  PLAIN FACTS on leap years.
-/
import Derived.Test.YtgclilgahalgaaaDoorNumMath
namespace Go.Proofs.YtgclilgahalgaaaDoor.Dt
open Go
set_option linter.unusedVariables false

def lpB (y : Int) : Bool := y % 4 == 0 && (y % 100 != 0 || y % 400 == 0)
theorem lp_no {y : Int} (h : y % 4 ≠ 0) : lpB y = false := by unfold lpB; simp [h]
theorem lp_yes {y : Int} (h : y % 4 = 0) (h2 : y % 100 ≠ 0) : lpB y = true := by unfold lpB; simp [h, h2]
theorem lp_cent {y : Int} (h2 : y % 100 = 0) : lpB y = (y % 400 == 0) := by unfold lpB; simp [h2]; intro h; omega
theorem ret_bool {a b : Bool} (h : a = b) : Ending.returned (.bool a) = .returned (.bool b) := by rw [h]
theorem b_yes {a b : Int} (h : a = b) : (a == b) = true := by simp [h]
theorem b_no {a b : Int} (h : a ≠ b) : (a == b) = false := by simp [h]
theorem n_yes {a b : Int} (h : a ≠ b) : (a != b) = true := by simp [h]
theorem n_no {a b : Int} (h : a = b) : (a != b) = false := by simp [h]
end Go.Proofs.YtgclilgahalgaaaDoor.Dt
