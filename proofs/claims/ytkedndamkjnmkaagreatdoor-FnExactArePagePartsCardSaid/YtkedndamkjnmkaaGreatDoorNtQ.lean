/-
  PLAIN FACTS on lists of texts in order: putting one in its place, and that there is one order.
-/
import Derived.Test.YtkedndamkjnmkaaGreatDoorNtSo
namespace Go.Proofs.YtkedndamkjnmkaaGreatDoor.Nt
open Go Go.RowKit
set_option linter.unusedVariables false
set_option maxRecDepth 1000000

abbrev Txt := List UInt8
def Sorted (xs : List Txt) : Prop := xs.Pairwise (fun x y => x ≤ y)
theorem tle_total (x y : Txt) : x ≤ y ∨ y ≤ x := List.le_total x y
theorem tle_trans {x y z : Txt} (h1 : x ≤ y) (h2 : y ≤ z) : x ≤ z := List.le_trans h1 h2
theorem tle_anti {x y : Txt} (h1 : x ≤ y) (h2 : y ≤ x) : x = y := List.le_antisymm h1 h2
theorem tle_of_lt {x y : Txt} (h : x < y) : x ≤ y := List.le_of_lt h
theorem tle_of_not {x y : Txt} (h : ¬ x < y) : y ≤ x := List.not_lt.1 h
theorem sorted_qsort (xs : List Txt) : Sorted (qsort xs) := by
  have := List.pairwise_mergeSort (le := fun x y : Txt => decide (x ≤ y)) (fun a b c h1 h2 => by simp only [decide_eq_true_eq] at *; exact tle_trans h1 h2) (fun a b => by simp only [Bool.or_eq_true, decide_eq_true_eq]; exact tle_total a b) xs
  exact this.imp (fun h => by simpa using h)
theorem sorted_uniq {xs ys : List Txt} (hp : xs.Perm ys) (h1 : Sorted xs) (h2 : Sorted ys) : xs = ys :=
  List.Perm.eq_of_pairwise (le := fun x y : Txt => x ≤ y) (fun a b _ _ h h' => tle_anti h h') h1 h2 hp
/-- The list with c at place m. -/
def ins (xs : List Txt) (m : Nat) (c : Txt) : List Txt := xs.take m ++ c :: xs.drop m
theorem ins_perm (xs : List Txt) (m : Nat) (c : Txt) : (ins xs m c).Perm (xs ++ [c]) := by
  unfold ins
  have h1 : (xs.take m ++ c :: xs.drop m).Perm (c :: (xs.take m ++ xs.drop m)) := List.perm_middle
  rw [List.take_append_drop] at h1
  exact h1.trans (List.perm_append_comm (l₁ := [c]) (l₂ := xs))
theorem ins_sorted {xs : List Txt} {m : Nat} {c : Txt} (h : Sorted xs) (hm : m ≤ xs.length) (h1 : ∀ j, m ≤ j → (hj : j < xs.length) → c < xs[j]) (h2 : m = 0 ∨ ∃ hj : m - 1 < xs.length, ¬ c < xs[m - 1]) : Sorted (ins xs m c) := by
  unfold Sorted ins at *
  rw [List.pairwise_append, List.pairwise_cons]
  have hd : ∀ y ∈ xs.drop m, c < y := by
    intro y hy
    obtain ⟨j, hj, rfl⟩ := List.mem_iff_getElem.1 hy
    rw [List.getElem_drop]
    rw [List.length_drop] at hj
    exact h1 (m + j) (by omega) (by omega)
  have ht : ∀ x ∈ xs.take m, x ≤ c := by
    intro x hx
    obtain ⟨j, hj, rfl⟩ := List.mem_iff_getElem.1 hx
    rw [List.length_take] at hj
    rw [List.getElem_take]
    rcases h2 with h2 | ⟨hj', h2⟩
    · omega
    · have hle : xs[m - 1] ≤ c := tle_of_not h2
      by_cases e : j = m - 1
      · subst e; exact hle
      · exact tle_trans (List.pairwise_iff_getElem.1 h j (m - 1) (by omega) hj' (by omega)) hle
  refine ⟨h.take, ⟨fun y hy => tle_of_lt (hd y hy), h.drop⟩, fun x hx y hy => ?_⟩
  rcases List.mem_cons.1 hy with rfl | hy
  · exact ht x hx
  · exact tle_trans (ht x hx) (tle_of_lt (hd y hy))
/-- Putting a text into what is in order is the order of what was there and it. -/
theorem ins_qsort {xs : List Txt} {m : Nat} {c : Txt} (hm : m ≤ (qsort xs).length) (h1 : ∀ j, m ≤ j → (hj : j < (qsort xs).length) → c < (qsort xs)[j]) (h2 : m = 0 ∨ ∃ hj : m - 1 < (qsort xs).length, ¬ c < (qsort xs)[m - 1]) : ins (qsort xs) m c = qsort (xs ++ [c]) :=
  sorted_uniq ((ins_perm _ _ _).trans ((((List.mergeSort_perm xs _).append_right [c])).trans (List.mergeSort_perm _ _).symm)) (ins_sorted (sorted_qsort xs) hm h1 h2) (sorted_qsort _)
theorem bytes_less : ∀ (x y : List UInt8), Op.bytesLess x y = decide (x < y)
  | [], [] => by simp [Op.bytesLess]
  | _ :: _, [] => by simp [Op.bytesLess]
  | [], _ :: _ => by simp [Op.bytesLess]
  | a :: x, b :: y => by
    rw [Op.bytesLess, bytes_less x y]
    simp only [List.cons_lt_cons_iff]
    by_cases h1 : a < b <;> by_cases h2 : a = b <;> by_cases h3 : x < y <;> simp [h1, h2, h3]
theorem less_walk (x y : Txt) : Op.bytesLess (⟨x.toArray⟩ : ByteArray).toList (⟨y.toArray⟩ : ByteArray).toList = decide (x < y) := by
  rw [bytes_less, Lib.toList_data, Lib.toList_data]
end Go.Proofs.YtkedndamkjnmkaaGreatDoor.Nt
