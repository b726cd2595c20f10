/-
  THE ELEMENT OF AN ARRAY OF TWELVE TEXTS BY VALUE.
-/
import Derived.Test.YtgclilgahalgaaaDoorLaidNm
namespace Go.Proofs.YtgclilgahalgaaaDoor.Dt
open Go Go.RowKit
set_option linter.unusedVariables false
def twelve (f : Nat → List UInt8) : Value := .agg #[.string ⟨(f 0).toArray⟩, .string ⟨(f 1).toArray⟩, .string ⟨(f 2).toArray⟩, .string ⟨(f 3).toArray⟩, .string ⟨(f 4).toArray⟩, .string ⟨(f 5).toArray⟩, .string ⟨(f 6).toArray⟩, .string ⟨(f 7).toArray⟩, .string ⟨(f 8).toArray⟩, .string ⟨(f 9).toArray⟩, .string ⟨(f 10).toArray⟩, .string ⟨(f 11).toArray⟩]
theorem idx12 (f : Nat → List UInt8) (k : Nat) (h : k < 12) (W : World) : (Instr.index 45 (twelve f) (.int .i64 (k : Int))).run Tryd.prog W = .ok (.string ⟨(f k).toArray⟩) W := by
  have hu := Tryd.underlying45
  have hkc : k = 0 ∨ k = 1 ∨ k = 2 ∨ k = 3 ∨ k = 4 ∨ k = 5 ∨ k = 6 ∨ k = 7 ∨ k = 8 ∨ k = 9 ∨ k = 10 ∨ k = 11 := by omega
  have hi : Tryd.prog.info? 9 = some _ := rfl
  rcases hkc with rfl | rfl | rfl | rfl | rfl | rfl | rfl | rfl | rfl | rfl | rfl | rfl
  all_goals simp [twelve, Instr.index, asIntOf, run_underlying hu, go_sem]
end Go.Proofs.YtgclilgahalgaaaDoor.Dt
