/-
  PLAIN FACTS OF NUMBERS that the contracts of chapter 1 lean on: remainder and quotient rounded down, and Go's own. No word of the program stands here.
-/
import Derived.Test.YtebkhailknbnhaaRows
import Derived.WalkKit
import Derived.ProofKit
import Derived.Lib.Hide
import Derived.OpenShut
namespace Go.Proofs.Ytebkhailknbnhaa.NumDiv
open Go Go.RowKit
set_option linter.unusedVariables false
set_option maxRecDepth 1000000

/-- Go's remainder, made not negative; 0 for a divisor out of range. -/
def md (n m : Int) : Int := if 1 ≤ m ∧ m ≤ 1000000000000 then n % m else 0
/-- the quotient rounded down; 0 for a divisor out of range. -/
def fd (n m : Int) : Int := if 1 ≤ m ∧ m ≤ 1000000000000 then n / m else 0

theorem md_out {n m : Int} (h : m < 1 ∨ 1000000000000 < m) : md n m = 0 := by unfold md; rw [if_neg (by omega)]
theorem fd_out {n m : Int} (h : m < 1 ∨ 1000000000000 < m) : fd n m = 0 := by unfold fd; rw [if_neg (by omega)]
theorem md_in {n m : Int} (h : 1 ≤ m) (h2 : m ≤ 1000000000000) : md n m = n % m := by unfold md; rw [if_pos ⟨h, h2⟩]
theorem fd_in {n m : Int} (h : 1 ≤ m) (h2 : m ≤ 1000000000000) : fd n m = n / m := by unfold fd; rw [if_pos ⟨h, h2⟩]

theorem tmod_bd (n m : Int) (h : 1 ≤ m) : -m < n.tmod m ∧ n.tmod m < m := by
  constructor
  · exact Int.lt_tmod_of_pos n (by omega)
  · exact Int.tmod_lt_of_pos n (by omega)
theorem tmod_split (n m : Int) (h : 1 ≤ m) : n.tmod m = n % m ∨ (0 < n % m ∧ n.tmod m = n % m - m) := by
  have e := Int.tmod_eq_emod (a := n) (b := m)
  have p := Int.emod_nonneg n (show m ≠ 0 by omega)
  by_cases c : 0 ≤ n ∨ m ∣ n
  · rw [if_pos c] at e; left; rw [e]; simp
  · rw [if_neg c] at e
    right
    have hz : n % m ≠ 0 := fun z => c (Or.inr (Int.dvd_of_emod_eq_zero z))
    exact ⟨by omega, by omega⟩
theorem tmod_neg_emod {n m : Int} (h : 1 ≤ m) (hr : n.tmod m < 0) : n.tmod m + m = n % m := by
  have p := Int.emod_nonneg n (show m ≠ 0 by omega)
  rcases tmod_split n m h with e | ⟨_, e⟩ <;> omega
theorem tmod_pos_emod {n m : Int} (h : 1 ≤ m) (hr : 0 ≤ n.tmod m) : n.tmod m = n % m := by
  have p := Int.emod_lt_of_pos n (show 0 < m by omega)
  rcases tmod_split n m h with e | ⟨_, e⟩ <;> omega
theorem tdiv_neg {n m : Int} (h : 1 ≤ m) (hr : n.tmod m < 0) : n.tdiv m - 1 = n / m := by
  have e := tmod_neg_emod h hr
  have a := Int.mul_tdiv_add_tmod n m
  have b := Int.mul_ediv_add_emod n m
  have : m * (n.tdiv m - 1) = m * (n / m) := by rw [Int.mul_sub]; omega
  exact Int.eq_of_mul_eq_mul_left (show m ≠ 0 by omega) this
theorem tdiv_pos {n m : Int} (h : 1 ≤ m) (hr : 0 ≤ n.tmod m) : n.tdiv m = n / m := by
  have e := tmod_pos_emod h hr
  have a := Int.mul_tdiv_add_tmod n m
  have b := Int.mul_ediv_add_emod n m
  have : m * (n.tdiv m) = m * (n / m) := by omega
  exact Int.eq_of_mul_eq_mul_left (show m ≠ 0 by omega) this

theorem q_bd' (n m : Int) (h : 1 ≤ m) (a : -9223372036854775808 ≤ n) (b : n ≤ 9223372036854775807) : -9223372036854775808 ≤ n / m ∧ n / m ≤ 9223372036854775807 := by
  constructor
  · refine Int.le_ediv_of_mul_le (by omega) ?_
    have : (-9223372036854775808 : Int) * m ≤ -9223372036854775808 * 1 := Int.mul_le_mul_of_nonpos_left (by omega) h
    omega
  · by_cases z : 0 ≤ n
    · have := Int.ediv_le_self m z; omega
    · have := Int.ediv_neg_of_neg_of_pos (show n < 0 by omega) (show 0 < m by omega); omega
theorem q_bd (n m : Int) (h : 1 ≤ m) (a : -9223372036854775808 ≤ n) (b : n ≤ 9223372036854775807) : -9223372036854775808 ≤ n.tdiv m ∧ n.tdiv m ≤ 9223372036854775807 := by
  have c := q_bd' n m h a b
  by_cases hr : n.tmod m < 0
  · have d := tdiv_neg h hr
    have e : n < 0 := by
      by_cases z : 0 ≤ n
      · have := Int.tmod_nonneg m z; omega
      · omega
    have := Int.ediv_neg_of_neg_of_pos e (show 0 < m by omega)
    omega
  · rw [tdiv_pos h (by omega)]; exact c
theorem ret_int {k : IntKind} {a b : Int} (h : a = b) : Ending.returned (.int k a) = .returned (.int k b) := by rw [h]
end Go.Proofs.Ytebkhailknbnhaa.NumDiv
