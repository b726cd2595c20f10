/-
  CONTRACT of the program's isWithin; the world stays as it was.
-/
import Derived.Test.YtnffoifkinpmpaaBase
import Derived.LoopTactic
namespace Go.Proofs.Ytnffoifkinpmpaa.Win
open Go Go.RowKit
set_option linter.unusedVariables false
set_option maxRecDepth 1000000
theorem within_yes (n l : Int) (w : World) (h : 0 ≤ n) (h2 : n ≤ l) : Calls Try.prog 45 #[.int .i64 n, .int .i64 l] w fun e w' => e = .returned (.bool true) ∧ w = w' := by
  go_enter Try.func45, Try.ntmps45
  go_wp2
  go_ret
  exact ⟨rfl, rfl⟩
theorem within_no (n l : Int) (w : World) (h : n < 0 ∨ l < n) : Calls Try.prog 45 #[.int .i64 n, .int .i64 l] w fun e w' => e = .returned (.bool false) ∧ w = w' := by
  by_cases h0 : 0 ≤ n
  · have h1 : ¬ n ≤ l := by omega
    clear h
    go_enter Try.func45, Try.ntmps45
    go_wp2
    go_ret
    exact ⟨rfl, rfl⟩
  · clear h
    go_enter Try.func45, Try.ntmps45
    go_wp2
    go_ret
    exact ⟨rfl, rfl⟩
end Go.Proofs.Ytnffoifkinpmpaa.Win
