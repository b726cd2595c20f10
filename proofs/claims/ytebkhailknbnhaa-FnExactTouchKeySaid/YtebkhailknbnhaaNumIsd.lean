/-
  CONTRACT of the program's isDivisor: whether a number may be a divisor; the world stays as it was.
-/
import Derived.Test.YtebkhailknbnhaaNumMath
namespace Go.Proofs.Ytebkhailknbnhaa.NumDiv
open Go Go.RowKit
set_option linter.unusedVariables false
set_option maxRecDepth 1000000

theorem isd_yes (m : Int) (w : World) (h1 : 1 ≤ m) (h2 : m ≤ 1000000000000) :
    Calls Try.prog 90 #[.int .i64 m] w fun e w' => e = .returned (.bool true) ∧ w = w' := by
  go_enter Try.func90, Try.ntmps90
  go_wp2
  go_ret
  exact ⟨rfl, rfl⟩
theorem isd_no (m : Int) (w : World) (h : m < 1 ∨ 1000000000000 < m) :
    Calls Try.prog 90 #[.int .i64 m] w fun e w' => e = .returned (.bool false) ∧ w = w' := by
  by_cases h1 : 1 ≤ m
  · have h2 : ¬ m ≤ 1000000000000 := by omega
    clear h
    go_enter Try.func90, Try.ntmps90
    go_wp2
    go_ret
    exact ⟨rfl, rfl⟩
  · clear h
    go_enter Try.func90, Try.ntmps90
    go_wp2
    go_ret
    exact ⟨rfl, rfl⟩
end Go.Proofs.Ytebkhailknbnhaa.NumDiv
