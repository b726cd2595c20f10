/-
  CONTRACTS of both sides' IsSafe: whether a method is GET, HEAD or OPTIONS; the world stays as it was.
-/
import Derived.Test.YtikpolmnadmkoaaBase
import Derived.LoopTactic
namespace Go.Proofs.Ytikpolmnadmkoaa.Msg
open Go Go.RowKit
set_option linter.unusedVariables false

def safe (l : List UInt8) : Bool := l == [71, 69, 84] || l == [72, 69, 65, 68] || l == [79, 80, 84, 73, 79, 78, 83]
theorem ret_safe {a b : Bool} (h : a = b) : Ending.returned (.bool a) = .returned (.bool b) := by rw [h]
theorem spec_safe (l : List UInt8) (w : World) : Calls Try.prog 5 #[.string ⟨l.toArray⟩] w fun e w' => e = .returned (.bool (safe l)) ∧ Below w.heap.size w w' := by
  go_enter Try.func5, Try.ntmps5
  go_wp2
  all_goals go_ret
  all_goals exact ⟨ret_safe (by simp_all [safe]), Below.refl _ _⟩
theorem impl_safe (l : List UInt8) (w : World) : Calls Try.prog 6 #[.string ⟨l.toArray⟩] w fun e w' => e = .returned (.bool (safe l)) ∧ Below w.heap.size w w' := by
  go_enter Try.func6, Try.ntmps6
  go_wp2
  all_goals go_ret
  all_goals exact ⟨ret_safe (by simp_all [safe]), Below.refl _ _⟩
end Go.Proofs.Ytikpolmnadmkoaa.Msg
