/-
  CONTRACTS of the program's CurrentAge and of the model's.
-/
import Derived.Test.YtfgpphbfampjjaaMaxI
import Derived.Test.YtfgpphbfampjjaaMaxS
import Derived.Test.YtfgpphbfampjjaaMinS
import Derived.Test.YtfgpphbfampjjaaClp
import Derived.IntWalk
namespace Go.Proofs.Ytfgpphbfampjjaa.Age
open Go Go.RowKit
set_option linter.unusedVariables false
/-- The age at a time, as the words of 64 bits count it. -/
def cage (i g n : Int) : Int := max 0 (min 2147483648 (wrap64 (max 0 i + max 0 (wrap64 (n - g)))))
theorem ret_age {a b : Int} (h : a = b) : Ending.returned (.int .i64 a) = .returned (.int .i64 b) := by rw [h]
theorem spec_cage (i g n : Int) (w : World) (wi : (Lit.int .i64 i).wf = true) (wg : (Lit.int .i64 g).wf = true) (wn : (Lit.int .i64 n).wf = true) :
    Calls Try.prog 66 #[.int .i64 i, .int .i64 g, .int .i64 n] w fun e w' => e = .returned (.int .i64 (cage i g n)) ∧ w = w' := by
  unfold cage
  go_enter Try.func66, Try.ntmps66
  go_wp2_with (first | (go_at_call 85; refine (Mm.spec_max _ _ _).mono ?_; rintro e w1 ⟨rfl, rfl⟩) | (go_at_call 61; refine (Mm.spec_min _ _ _).mono ?_; rintro e w1 ⟨rfl, rfl⟩))
  go_ret
  exact ⟨ret_age (by rfl), rfl⟩
theorem impl_cage (i g n : Int) (w : World) (wi : (Lit.int .i64 i).wf = true) (wg : (Lit.int .i64 g).wf = true) (wn : (Lit.int .i64 n).wf = true) :
    Calls Try.prog 70 #[.int .i64 i, .int .i64 g, .int .i64 n] w fun e w' => e = .returned (.int .i64 (cage i g n)) ∧ w = w' := by
  unfold cage
  go_enter Try.func70, Try.ntmps70
  go_wp2_with (first | (go_at_call 89; refine (Mm.impl_max _ _ _).mono ?_; rintro e w1 ⟨rfl, rfl⟩) | (go_at_call 88; refine (Mm.impl_clamp _ _ _ _).mono ?_; rintro e w1 ⟨rfl, rfl⟩))
  go_ret
  exact ⟨ret_age (by omega), rfl⟩
end Go.Proofs.Ytfgpphbfampjjaa.Age
