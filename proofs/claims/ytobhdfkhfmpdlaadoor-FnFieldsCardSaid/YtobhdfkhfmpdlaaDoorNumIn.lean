/-
  CONTRACT of the model's small test l1In: whether a number lies between two others; the world stays as it was.
-/
import Derived.Test.YtobhdfkhfmpdlaaDoorNumMath
namespace Go.Proofs.YtobhdfkhfmpdlaaDoor.NumDiv
open Go Go.RowKit
set_option linter.unusedVariables false
set_option maxRecDepth 1000000

theorem in_yes (x lo hi : Int) (w : World) (h1 : lo ≤ x) (h2 : x ≤ hi) :
    Calls Tryd.prog 70 #[.int .i64 x, .int .i64 lo, .int .i64 hi] w fun e w' => e = .returned (.bool true) ∧ w = w' := by
  go_enter Tryd.func70, Tryd.ntmps70
  go_wp2
  go_ret
  exact ⟨rfl, rfl⟩
theorem in_no (x lo hi : Int) (w : World) (h : x < lo ∨ hi < x) :
    Calls Tryd.prog 70 #[.int .i64 x, .int .i64 lo, .int .i64 hi] w fun e w' => e = .returned (.bool false) ∧ w = w' := by
  by_cases h1 : lo ≤ x
  · have h2 : ¬ x ≤ hi := by omega
    clear h
    go_enter Tryd.func70, Tryd.ntmps70
    go_wp2
    go_ret
    exact ⟨rfl, rfl⟩
  · clear h
    go_enter Tryd.func70, Tryd.ntmps70
    go_wp2
    go_ret
    exact ⟨rfl, rfl⟩
end Go.Proofs.YtobhdfkhfmpdlaaDoor.NumDiv
