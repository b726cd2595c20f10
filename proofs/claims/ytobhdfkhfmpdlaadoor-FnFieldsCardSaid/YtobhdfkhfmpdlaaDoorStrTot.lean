/-
  PLAIN FACTS on the size of a list of texts.
-/
import Derived.Test.YtobhdfkhfmpdlaaDoorStrs
namespace Go.Proofs.YtobhdfkhfmpdlaaDoor.Strs
open Go Go.RowKit
set_option linter.unusedVariables false
set_option maxRecDepth 1000000

/-! the size -/
def total (xs : List (List UInt8)) : Nat := (xs.map (·.length)).sum + xs.length
theorem total_nil : total [] = 0 := rfl
def pre (xs : List (List UInt8)) (k : Nat) : Nat := ((xs.take k).map (·.length)).sum
theorem pre_zero (xs : List (List UInt8)) : pre xs 0 = 0 := by unfold pre; simp
theorem pre_more {xs : List (List UInt8)} {k : Nat} (h : k < xs.length) : pre xs (k + 1) = pre xs k + (xs.getD k []).length := by
  unfold pre; rw [List.take_succ_eq_append_getElem h, List.map_append, List.sum_append]; simp [List.getD, h]
theorem pre_all {xs : List (List UInt8)} {k : Nat} (h : k = xs.length) : total xs = pre xs k + xs.length := by unfold pre total; subst h; simp
end Go.Proofs.YtobhdfkhfmpdlaaDoor.Strs
