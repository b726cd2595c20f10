/-
  CONTRACT of the program's isUpper; the world stays as it was.
-/
import Derived.Test.YtobhdfkhfmpdlaaDoorBase
namespace Go.Proofs.YtobhdfkhfmpdlaaDoor.Tx
open Go Go.RowKit
set_option linter.unusedVariables false
set_option maxRecDepth 1000000

theorem ret_bool {a b : Bool} (h : a = b) : Ending.returned (.bool a) = .returned (.bool b) := by rw [h]
theorem up_yes (x : Int) (w : World) (h1 : 65 ≤ x) (h2 : x ≤ 90) : Calls Tryd.prog 38 #[.int .u8 x] w fun e w' => e = .returned (.bool true) ∧ w = w' := by
  go_enter Tryd.func38, Tryd.ntmps38
  go_wp2
  go_ret
  exact ⟨rfl, rfl⟩
theorem up_no (x : Int) (w : World) (h : x < 65 ∨ 90 < x) : Calls Tryd.prog 38 #[.int .u8 x] w fun e w' => e = .returned (.bool false) ∧ w = w' := by
  by_cases h1 : 65 ≤ x
  · have h2 : ¬ x ≤ 90 := by omega
    clear h
    go_enter Tryd.func38, Tryd.ntmps38
    go_wp2
    go_ret
    exact ⟨rfl, rfl⟩
  · clear h
    go_enter Tryd.func38, Tryd.ntmps38
    go_wp2
    go_ret
    exact ⟨rfl, rfl⟩

end Go.Proofs.YtobhdfkhfmpdlaaDoor.Tx
