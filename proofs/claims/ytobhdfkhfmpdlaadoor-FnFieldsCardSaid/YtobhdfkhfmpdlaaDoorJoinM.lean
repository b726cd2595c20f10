/-
  PLAIN FACTS on joined texts.
-/
import Derived.Test.YtobhdfkhfmpdlaaDoorTxCut
import Derived.Test.YtobhdfkhfmpdlaaDoorStrTot
import Derived.Laws.Concat
namespace Go.Proofs.YtobhdfkhfmpdlaaDoor.Tx
open Go Go.RowKit Strs
set_option linter.unusedVariables false
set_option maxRecDepth 1000000

theorem addtwo (a b : List UInt8) (h : a.length + b.length ≤ 1000000000) (W : World) :
    (Op.stringOp .add ⟨a.toArray⟩ ⟨b.toArray⟩).run Tryd.prog W = .ok (.string ⟨(a ++ b).toArray⟩) W := by
  rw [run_string_add_sum W _ _ (by simp [ByteArray.size]; omega)]
  congr 2
theorem join_snoc {xs : List (List UInt8)} (x : List UInt8) (h : xs ≠ []) : join (xs ++ [x]) = join xs ++ [44, 32] ++ x := by
  induction xs with
  | nil => exact absurd rfl h
  | cons a r ih =>
    by_cases hr : r = []
    · subst hr; rw [List.singleton_append, join_cons _ _ (by simp), join_one, join_one]; simp
    · rw [List.cons_append, join_cons _ _ (by simp), join_cons _ _ hr, ih hr]; simp
theorem join_more {xs : List (List UInt8)} {k : Nat} (h : k < xs.length) (h0 : 0 < k) : join (xs.take (k + 1)) = join (xs.take k) ++ [44, 32] ++ xs.getD k [] := by
  rw [List.take_succ_eq_append_getElem h, join_snoc _ (by intro e; have h' := congrArg List.length e; rw [List.length_take, List.length_nil] at h'; omega)]
  simp [List.getD, h]
theorem join_first {xs : List (List UInt8)} (h : 0 < xs.length) : join (xs.take 1) = xs.getD 0 [] := by
  cases xs with
  | nil => simp at h
  | cons a r => simp [join_one]
theorem join_nil : join [] = [] := rfl
theorem pre_le (xs : List (List UInt8)) (k : Nat) : pre xs k ≤ (xs.map (·.length)).sum := by
  unfold pre
  conv => rhs; rw [← List.take_append_drop k xs]
  rw [List.map_append, List.sum_append]; omega
theorem join_len (xs : List (List UInt8)) (k : Nat) (hk : k ≤ xs.length) : (join (xs.take k)).length ≤ pre xs k + 2 * k := by
  induction k with
  | zero => simp [join_nil]
  | succ k ih =>
    have ih := ih (by omega)
    have hp := pre_more (xs := xs) (k := k) (by omega)
    by_cases h0 : 0 < k
    · rw [join_more (by omega) h0]; simp only [List.length_append, List.length_cons, List.length_nil]; omega
    · have : k = 0 := by omega
      subst this
      rw [join_first (by omega)]; rw [hp]; omega

def JoinEnd (xs : List (List UInt8)) (w : World) (e : Ending) (w' : World) : Prop := e = .returned (.string ⟨(join xs).toArray⟩) ∧ Below w.heap.size w w'
theorem ret_join {a b : List UInt8} (h : a = b) : Ending.returned (.string ⟨a.toArray⟩) = .returned (.string ⟨b.toArray⟩) := by rw [h]

end Go.Proofs.YtobhdfkhfmpdlaaDoor.Tx
